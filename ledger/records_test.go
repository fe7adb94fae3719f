package ledger_test

import (
	"reflect"
	"slices"
	"strconv"
	"strings"
	"testing"

	"gavel/api"
	"gavel/ledger"
	"gavel/wire"
)

// value is an account of two goods, laid by hand.
type value struct {
	stamp, cash, held, a, b, lockedA, lockedB int
	reply                                     string
}

func (v value) laid() string {
	return laid(v.stamp, v.cash, v.held, v.a, v.b, v.lockedA, v.lockedB, len(v.reply)) + v.reply
}

// recordsOf are accounts of the clients 0, 1 ..
func recordsOf(values ...string) []api.Record {
	var l []api.Record
	for i, v := range values {
		l = append(l, api.Record{Key: "acct/" + strconv.Itoa(100 + i)[1:], Value: v})
	}
	return l
}

// good are records of three clients and two goods that are a ledger's.
func good() []api.Record {
	return recordsOf(
		value{5, 9, 4, 7, 300, 7, 1, "reply"}.laid(),
		value{}.laid(),
		value{1, most - 9, 0, 1, 1 << 20, 0, 1 << 20, ""}.laid(),
	)
}

func ofRecords(t *testing.T, clients, goods int, l []api.Record) *ledger.Ledger {
	t.Helper()
	x, e := ledger.Of(clients, goods, l)
	if x == nil || e != api.OK {
		t.Fatalf("Of(%d, %d, %q) = %v, %d", clients, goods, l, x, e)
	}
	return x
}

func wantNoState(t *testing.T, what string, clients, goods int, l []api.Record, want api.Errno) {
	t.Helper()
	if x, e := ledger.Of(clients, goods, l); x != nil || e != want {
		t.Errorf("%s: Of(%d, %d, %.40q) = %v, %d, want %d", what, clients, goods, l, x, e, want)
	}
}

// thereAndBack: the ledger of a ledger's records tells the same, and does the same behind it.
func thereAndBack(t *testing.T, clients, goods int, x *ledger.Ledger) {
	t.Helper()
	l := x.Records()
	y := ofRecords(t, clients, goods, l)
	if a, b := tell(x), tell(y); !reflect.DeepEqual(a, b) {
		t.Fatalf("there and back\n%v\nis\n%v", a, b)
	}
	if s, e := wire.PutRecords(l); s == "" || e != api.OK {
		t.Fatalf("records that may not be: %d", e)
	}
}

// 6.6
func TestRecords(t *testing.T) {
	x := newLedger(t, 2, 1)
	want := recordsOf("\x00\x00\x00\x00\x00\x00", "\x00\x00\x00\x00\x00\x00")
	if l := x.Records(); !slices.Equal(l, want) {
		t.Errorf("of nothing: %q", l)
	}
	each(t, x.Pay(0, 9), x.Hold(0, 5), x.Store(0, 0, 300), x.Lock(0, 0, 128), x.Mark(0, 127, "reply"), x.Pay(1, 1), x.Mark(1, most, ""))
	want = recordsOf("\x7f\x09\x05\xac\x02\x80\x01\x05reply", "\x80\x80\x80\x80\x80\x20\x01\x00\x00\x00\x00")
	if l := x.Records(); !slices.Equal(l, want) {
		t.Errorf("of one good: %q", l)
	}
	y := newLedger(t, 1, 4)
	each(t, y.Pay(0, 2), y.Hold(0, 1))
	for good := range 4 {
		each(t, y.Store(0, good, 10+good), y.Lock(0, good, 5+good))
	}
	want = recordsOf("\x00\x02\x01\x0a\x0b\x0c\x0d\x05\x06\x07\x08\x00")
	if l := y.Records(); !slices.Equal(l, want) {
		t.Errorf("of four goods: %q", l)
	}
}

// 6.6
func TestKeysRise(t *testing.T) {
	keys := strings.Fields("acct/00 acct/01 acct/02 acct/03 acct/04 acct/05 acct/06 acct/07 acct/08 acct/09 acct/10 acct/11 acct/12 acct/13 acct/14 acct/15")
	for clients := 1; clients <= 16; clients++ {
		x := newLedger(t, clients, 1)
		each(t, x.Pay(clients-1, 7))
		l := x.Records()
		if len(l) != clients {
			t.Fatalf("%d records of %d clients", len(l), clients)
		}
		for i, r := range l {
			if r.Key != keys[i] || (r.Value != "\x00\x00\x00\x00\x00\x00") != (i == clients-1) {
				t.Errorf("of %d clients record %d is %q", clients, i, r)
			}
		}
		thereAndBack(t, clients, 1, x)
	}
}

// 6.6
func TestOf(t *testing.T) {
	x := ofRecords(t, 3, 2, good())
	wantAccount(t, x, 0, api.Account{Cash: 9, Held: 4, Goods: [4]int{7, 300}, Locked: [4]int{7, 1}})
	wantAccount(t, x, 1, api.Account{})
	wantAccount(t, x, 2, api.Account{Cash: most - 9, Goods: [4]int{1, 1 << 20}, Locked: [4]int{0, 1 << 20}})
	wantLast(t, x, 0, 5, "reply")
	wantLast(t, x, 1, 0, "")
	wantLast(t, x, 2, 1, "")
	wantTotals(t, x, most, [4]int{8, 300 + 1<<20})
	if l := x.Records(); !slices.Equal(l, good()) {
		t.Errorf("and back: %q", l)
	}
	// It goes on as any other one.
	callOf("Pay", 1, 0, 0, 1).refused(t, x, api.ErrOver)
	callOf("Take", 0, 0, 0, 6).refused(t, x, api.ErrPoor)
	callOf("Fetch", 0, 0, 0, 1).refused(t, x, api.ErrPoor)
	callOf("Store", 0, 0, 2, 1).refused(t, x, api.ErrArg)
	callOf("Pay", 3, 0, 0, 1).refused(t, x, api.ErrAccount)
	mark(0, 5, "r").refused(t, x, api.ErrStale)
	each(t, x.Move(0, 1, 4), x.Hand(0, 1, 0, 7), x.Mark(0, 6, "r"), x.Mark(1, 1, "s"))
	thereAndBack(t, 3, 2, x)
}

// 6.6: the edges of what a value may be.
func TestOfAtTheEdges(t *testing.T) {
	rows := map[string]value{
		"nothing":              {},
		"all cash":             {cash: most},
		"all cash, all held":   {cash: most, held: most},
		"all of the goods":     {a: most, b: most},
		"all of them locked":   {a: most, b: most, lockedA: most, lockedB: most},
		"the greatest stamp":   {stamp: most},
		"an empty reply":       {stamp: 1},
		"a reply at stamp 1":   {stamp: 1, reply: "r"},
		"a reply of 256":       {stamp: most, reply: strings.Repeat("r", 256)},
		"all of everything":    {most, most, most, most, most, most, most, strings.Repeat("\xff", 256)},
		"one held of one":      {cash: 1, held: 1},
		"one locked of one":    {a: 1, lockedA: 1, b: 1, lockedB: 1},
		"a reply of no number": {stamp: 3, reply: "\x80\x80"},
	}
	for name, v := range rows {
		x, e := ledger.Of(1, 2, recordsOf(v.laid()))
		if x == nil || e != api.OK {
			t.Errorf("%s: %v, %d", name, x, e)
			continue
		}
		wantAccount(t, x, 0, api.Account{Cash: v.cash, Held: v.held, Goods: [4]int{v.a, v.b}, Locked: [4]int{v.lockedA, v.lockedB}})
		wantLast(t, x, 0, v.stamp, v.reply)
		thereAndBack(t, 1, 2, x)
	}
}

// 6.6: values that no ledger has, each of them of the first, of the last and of the only client.
func TestOfRefusesValues(t *testing.T) {
	v := value{5, 9, 4, 7, 300, 7, 1, "reply"}
	s := v.laid() // each of its numbers but 300 has one byte
	beyond := laid(1<<53 + 1)
	rows := map[string]string{
		"nothing":                    "",
		"a stamp above 2^40":         value{stamp: most + 1}.laid(),
		"cash above 2^40":            value{cash: most + 1}.laid(),
		"held above 2^40":            value{cash: most, held: most + 1}.laid(),
		"a good above 2^40":          value{a: most + 1}.laid(),
		"the last good above 2^40":   value{b: most + 1}.laid(),
		"locked above 2^40":          value{a: most, lockedA: most + 1}.laid(),
		"the last above 2^40":        value{b: most, lockedB: most + 1}.laid(),
		"a stamp of 2^53":            value{stamp: 1 << 53}.laid(),
		"cash and held of 2^53":      value{cash: 1 << 53, held: 1 << 53}.laid(),
		"a stamp above 2^53":         beyond + s[1:],
		"cash above 2^53":            s[:1] + beyond + s[2:],
		"locked above 2^53":          s[:7] + beyond + s[8:],
		"a reply's length as much":   s[:8] + beyond + "reply",
		"more held than there is":    value{cash: 4, held: 5}.laid(),
		"held of nothing":            value{held: 1}.laid(),
		"more locked than there is":  value{a: 4, lockedA: 5}.laid(),
		"locked of nothing":          value{lockedA: 1}.laid(),
		"more of the last locked":    value{b: 4, lockedB: 5}.laid(),
		"locked of the other good":   value{a: 4, lockedB: 4}.laid(),
		"a reply of 257":             value{stamp: 1, reply: strings.Repeat("r", 257)}.laid(),
		"a reply of 2^20":            value{stamp: 1, reply: strings.Repeat("r", 1<<20)}.laid(),
		"a reply too long to be one": value{stamp: 1, reply: strings.Repeat("r", 1<<20+1)}.laid(),
		"a reply at the stamp 0":     value{reply: "r"}.laid(),
		"a long one at the stamp 0":  value{cash: 1, reply: strings.Repeat("r", 256)}.laid(),
		"a byte behind":              s + "\x00",
		"bytes behind":               s + s,
		"a byte behind nothing":      value{}.laid() + "\x00",
		"a stamp in long form":       "\x85\x00" + s[1:],
		"cash in long form":          s[:1] + "\x89\x00" + s[2:],
		"locked in long form":        s[:7] + "\x81\x00" + s[8:],
		"a length in long form":      s[:8] + "\x85\x00reply",
		"a number of one good less":  laid(5, 9, 4, 7, 7, 5) + "reply",
		"a number of one good more":  laid(5, 9, 4, 7, 8, 9, 7, 8, 9, 5) + "reply",
		"digits":                     "5 9 4 7 300 7 1 reply",
	}
	for n := range len(s) {
		rows["the first "+strconv.Itoa(n)+" bytes"] = s[:n]
	}
	other := value{}.laid()
	for name, bad := range rows {
		wantNoState(t, name, 1, 2, recordsOf(bad), api.ErrState)
		wantNoState(t, name+", first", 3, 2, recordsOf(bad, other, other), api.ErrState)
		wantNoState(t, name+", last", 3, 2, recordsOf(other, other, bad), api.ErrState)
	}
	if l := recordsOf(s); !slices.Equal(ofRecords(t, 1, 2, l).Records(), l) {
		t.Error("the right one is not taken")
	}
}

// 6.6
func TestOfRefusesTotals(t *testing.T) {
	v := []func(n int) string{
		func(n int) string { return value{cash: n}.laid() },
		func(n int) string { return value{a: n}.laid() },
		func(n int) string { return value{b: n}.laid() },
	}
	for i, f := range v {
		l := recordsOf(f(most-5), f(2), f(3))
		if got := ofRecords(t, 3, 2, l).Records(); !slices.Equal(got, l) {
			t.Errorf("%d: just all there may be: %q", i, got)
		}
		wantNoState(t, "one more", 3, 2, recordsOf(f(most-5), f(3), f(3)), api.ErrState)
		wantNoState(t, "one more of the last", 3, 2, recordsOf(f(0), f(1), f(most)), api.ErrState)
		wantNoState(t, "twice all", 2, 2, recordsOf(f(most), f(most)), api.ErrState)
	}
	all := value{cash: most, a: most, b: most}
	ofRecords(t, 2, 2, recordsOf(all.laid(), value{}.laid())) // each for itself is no more than may be
	ofRecords(t, 3, 2, recordsOf(value{cash: most}.laid(), value{a: most}.laid(), value{b: most}.laid()))
	var many []string
	for range 16 {
		many = append(many, all.laid())
	}
	wantNoState(t, "sixteen times all", 16, 2, recordsOf(many...), api.ErrState)
}

// 6.6: too few, too many, unordered and other records.
func TestOfRefusesRecords(t *testing.T) {
	l := good()
	none := value{}.laid()
	key := func(i int, k string) []api.Record {
		m := good()
		m[i].Key = k
		return m
	}
	rows := map[string][]api.Record{
		"nil":                                 nil,
		"none":                                {},
		"the first two":                       l[:2],
		"the last two":                        l[1:],
		"one lacks":                           {l[0], l[2]},
		"one more":                            append(good(), api.Record{Key: "acct/03", Value: none}),
		"another one more":                    append(good(), api.Record{Key: "now", Value: "\x00"}),
		"one ahead":                           append([]api.Record{{Key: "acct", Value: none}}, good()...),
		"one twice":                           {l[0], l[1], l[1]},
		"one twice, four":                     {l[0], l[1], l[1], l[2]},
		"the last two fall":                   {l[0], l[2], l[1]},
		"they fall":                           {l[2], l[1], l[0]},
		"no key":                              key(0, ""),
		"another key":                         key(0, "book/00"),
		"a key of a client that there is not": key(2, "acct/03"),
		"a later key first":                   key(0, "acct/01"),
		"a digit":                             key(0, "acct/0"),
		"a digit, no nought":                  key(1, "acct/1"),
		"three digits":                        key(1, "acct/001"),
		"a blank":                             key(1, "acct/ 1"),
		"capitals":                            key(1, "Acct/01"),
		"a byte behind the key":               key(1, "acct/01\x00"),
		"a key of hexadecimals":               key(2, "acct/0a"),
		"a negative key":                      key(0, "acct/-0"),
	}
	for name, m := range rows {
		wantNoState(t, name, 3, 2, m, api.ErrState)
	}
	all := make([]string, 16)
	for i := range all {
		all[i] = none
	}
	ofRecords(t, 16, 2, recordsOf(all...))
	wantNoState(t, "17 of 16", 16, 2, recordsOf(append(all, none)...), api.ErrState)
	wantNoState(t, "15 of 16", 16, 2, recordsOf(all[1:]...), api.ErrState)
	hex := recordsOf(all...)
	hex[10].Key = "acct/0a"
	wantNoState(t, "the tenth by a letter", 16, 2, hex, api.ErrState)
	wantNoState(t, "very many", 3, 2, make([]api.Record, 1<<16), api.ErrState)
}

// 6.6: records of other numbers of clients and goods are not just such records.
func TestOfRefusesOtherLedgers(t *testing.T) {
	for goods := 1; goods <= 4; goods++ {
		for clients := 1; clients <= 16; clients++ {
			x := newLedger(t, clients, goods)
			each(t, x.Mark(0, 1, ""))
			for other := 1; other <= 4; other++ {
				if other != goods {
					wantNoState(t, "other goods", clients, other, x.Records(), api.ErrState)
				}
			}
			for other := 1; other <= 16; other++ {
				if other != clients {
					wantNoState(t, "other clients", other, goods, x.Records(), api.ErrState)
				}
			}
		}
	}
}

// 6.6: what New refuses is refused so, whatever the records are.
func TestOfRefusesNumbers(t *testing.T) {
	for _, l := range [][]api.Record{nil, good(), good()[:1], {{}}} {
		for _, n := range []int{0, -1, 17, 1 << 40, -1 << 63, 1<<63 - 1} {
			wantNoState(t, "clients", n, 2, l, api.ErrArg)
			wantNoState(t, "both", n, n, l, api.ErrArg)
			wantNoState(t, "goods", 3, n, l, api.ErrArg)
		}
		wantNoState(t, "five goods", 3, 5, l, api.ErrArg)
	}
	wantNoState(t, "17 accounts", 17, 1, recordsOf(make([]string, 17)...), api.ErrArg)
}

// 6.6: ledgers behind many calls, there and back.
func TestThereAndBack(t *testing.T) {
	seed := uint32(5)
	next := func(n int) int {
		seed = seed*1664525 + 1013904223
		return int(seed>>16) % n
	}
	for clients := 1; clients <= 16; clients++ {
		for goods := 1; goods <= 4; goods++ {
			x := newLedger(t, clients, goods)
			for step := range 150 {
				n := 1 + next(300)<<next(30)
				callsOf(next(clients), next(clients), next(goods), n)[next(10)].do(x)
				if next(3) == 0 {
					x.Mark(next(clients), 1+next(1<<10)<<next(20), strings.Repeat("\xab", next(257)))
				}
				thereAndBack(t, clients, goods, x)
				if step%10 == 0 {
					x = ofRecords(t, clients, goods, x.Records()) // and on behind it
				}
			}
		}
	}
}

// 6.6: each byte of a value put otherwise is refused, or is another ledger with just those records.
func TestOfTakesNoOtherBytes(t *testing.T) {
	s := good()[0].Value
	taken := 0
	for i := range len(s) {
		for c := range 256 {
			l := recordsOf(s[:i] + string([]byte{byte(c)}) + s[i+1:])
			x, e := ledger.Of(1, 2, l)
			if e == api.OK && slices.Equal(x.Records(), l) {
				taken++
				sound(t, x, 1)
			} else if x != nil || e != api.ErrState {
				t.Fatalf("%q: %v, %d", l, x, e)
			}
		}
	}
	if taken < len(s) {
		t.Errorf("only %d were taken", taken)
	}
}

// R3: what Of was given is neither changed nor kept; what Records answers is new each time.
func TestRecordsAreNotShared(t *testing.T) {
	room := append(good(), api.Record{Key: "behind", Value: "the end"})
	l := room[:3]
	x := ofRecords(t, 3, 2, l)
	if !slices.Equal(room[:3], good()) || room[3] != (api.Record{Key: "behind", Value: "the end"}) {
		t.Error("what was given is changed")
	}
	clear(l)
	first := x.Records()
	if !slices.Equal(first, good()) {
		t.Error("what was given is kept")
	}
	second := x.Records()
	clear(first)
	if !slices.Equal(second, good()) || !slices.Equal(x.Records(), good()) {
		t.Error("two answers share memory")
	}
	each(t, x.Take(0, 1))
	if !slices.Equal(second, good()) {
		t.Error("an answer changes with the ledger")
	}
}
