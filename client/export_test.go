package client

// At is the client with another last stamp, as if it had asked that often: nobody can ask 2^40 times.
func (x *Client) At(stamp int) *Client {
	x.stamp = stamp
	return x
}

// Overkept tells what a client keeps that nothing needs any more; empty, if there is nothing.
func (x *Client) Overkept() string {
	if x.asked == "" && len(x.told) != 0 {
		return "what was told of a request that does not wait"
	}
	if len(x.told) > size(x.config) {
		return "more than one reply of a replica"
	}
	return ""
}
