/- The document's Right: what is refused for its bounds or its kind; all of it. -/
import Derived.Test.YtbfipafhmbgnnaaRefW
namespace Go.Proofs.Ytbfipafhmbgnnaa
open Go.RowKit
set_option linter.unusedVariables false
set_option linter.unusedSimpArgs false

set_option maxRecDepth 100000 in
set_option maxHeartbeats 1000000 in
theorem rightRef_lo (b : Bd) (p : Option Addr) (c : Nat) (w : World) (hk : b.kind < 1) :
    Calls Try.prog 17 #[b.val (.slice p b.list.length c)] w fun e w' => e = .returned (.int .i64 13) ∧ Below w.heap.size w w' := by
  have kd0 : decide (b.kind < 1) = true := by simpa using hk
  clear hk
  unfold Bd.val
  go_enter Try.func17, Try.ntmps17
  go_wp2
  go_ret
  exact ⟨rfl, by go_grown⟩

set_option maxRecDepth 100000 in
set_option maxHeartbeats 1000000 in
theorem rightRef_hi (b : Bd) (p : Option Addr) (c : Nat) (w : World) (hk0 : ¬ b.kind < 1) (hk : 13 < b.kind) :
    Calls Try.prog 17 #[b.val (.slice p b.list.length c)] w fun e w' => e = .returned (.int .i64 13) ∧ Below w.heap.size w w' := by
  have kd0 : decide (b.kind < 1) = false := by simpa using hk0
  have kd1 : decide (13 < b.kind) = true := by simpa using hk
  clear hk hk0
  unfold Bd.val
  go_enter Try.func17, Try.ntmps17
  go_wp2
  go_ret
  exact ⟨rfl, by go_grown⟩

set_option maxRecDepth 100000 in
set_option maxHeartbeats 1000000 in
theorem rightRef_b1 (b : Bd) (p : Option Addr) (c : Nat) (w : World) (k0 : ¬ b.kind < 1) (k1 : ¬ 13 < b.kind) (h1 : b.digest.size ≤ maxLen) (h2 : b.text.size ≤ maxLen) (h3 : b.list.length < 9223372036854775807)  (g1 : b.view < 0) :
    Calls Try.prog 17 #[b.val (.slice p b.list.length c)] w fun e w' => e = .returned (.int .i64 14) ∧ Below w.heap.size w w' := by
  unfold maxLen at h1 h2
  have kd0 : decide (b.kind < 1) = false := by simpa using k0
  have kd1 : decide (13 < b.kind) = false := by simpa using k1
  have d1 : decide (b.view < 0) = true := by simpa using g1
  clear k0 k1 g1
  unfold Bd.val
  go_enter Try.func17, Try.ntmps17
  go_wp2
  go_ret
  exact ⟨rfl, by go_grown⟩

set_option maxRecDepth 100000 in
set_option maxHeartbeats 1000000 in
theorem rightRef_b2 (b : Bd) (p : Option Addr) (c : Nat) (w : World) (k0 : ¬ b.kind < 1) (k1 : ¬ 13 < b.kind) (h1 : b.digest.size ≤ maxLen) (h2 : b.text.size ≤ maxLen) (h3 : b.list.length < 9223372036854775807) (g1 : ¬ b.view < 0) (g2 : 1048576 < b.view) :
    Calls Try.prog 17 #[b.val (.slice p b.list.length c)] w fun e w' => e = .returned (.int .i64 14) ∧ Below w.heap.size w w' := by
  unfold maxLen at h1 h2
  have kd0 : decide (b.kind < 1) = false := by simpa using k0
  have kd1 : decide (13 < b.kind) = false := by simpa using k1
  have d1 : decide (b.view < 0) = false := by simpa using g1
  have d2 : decide (1048576 < b.view) = true := by simpa using g2
  clear k0 k1 g1 g2
  unfold Bd.val
  go_enter Try.func17, Try.ntmps17
  go_wp2
  go_ret
  exact ⟨rfl, by go_grown⟩

set_option maxRecDepth 100000 in
set_option maxHeartbeats 1000000 in
theorem rightRef_b3 (b : Bd) (p : Option Addr) (c : Nat) (w : World) (k0 : ¬ b.kind < 1) (k1 : ¬ 13 < b.kind) (h1 : b.digest.size ≤ maxLen) (h2 : b.text.size ≤ maxLen) (h3 : b.list.length < 9223372036854775807) (g1 : ¬ b.view < 0) (g2 : ¬ 1048576 < b.view) (g3 : b.seq < 0) :
    Calls Try.prog 17 #[b.val (.slice p b.list.length c)] w fun e w' => e = .returned (.int .i64 14) ∧ Below w.heap.size w w' := by
  unfold maxLen at h1 h2
  have kd0 : decide (b.kind < 1) = false := by simpa using k0
  have kd1 : decide (13 < b.kind) = false := by simpa using k1
  have d1 : decide (b.view < 0) = false := by simpa using g1
  have d2 : decide (1048576 < b.view) = false := by simpa using g2
  have d3 : decide (b.seq < 0) = true := by simpa using g3
  clear k0 k1 g1 g2 g3
  unfold Bd.val
  go_enter Try.func17, Try.ntmps17
  go_wp2
  go_ret
  exact ⟨rfl, by go_grown⟩

set_option maxRecDepth 100000 in
set_option maxHeartbeats 1000000 in
theorem rightRef_b4 (b : Bd) (p : Option Addr) (c : Nat) (w : World) (k0 : ¬ b.kind < 1) (k1 : ¬ 13 < b.kind) (h1 : b.digest.size ≤ maxLen) (h2 : b.text.size ≤ maxLen) (h3 : b.list.length < 9223372036854775807) (g1 : ¬ b.view < 0) (g2 : ¬ 1048576 < b.view) (g3 : ¬ b.seq < 0) (g4 : 1073741824 < b.seq) :
    Calls Try.prog 17 #[b.val (.slice p b.list.length c)] w fun e w' => e = .returned (.int .i64 14) ∧ Below w.heap.size w w' := by
  unfold maxLen at h1 h2
  have kd0 : decide (b.kind < 1) = false := by simpa using k0
  have kd1 : decide (13 < b.kind) = false := by simpa using k1
  have d1 : decide (b.view < 0) = false := by simpa using g1
  have d2 : decide (1048576 < b.view) = false := by simpa using g2
  have d3 : decide (b.seq < 0) = false := by simpa using g3
  have d4 : decide (1073741824 < b.seq) = true := by simpa using g4
  clear k0 k1 g1 g2 g3 g4
  unfold Bd.val
  go_enter Try.func17, Try.ntmps17
  go_wp2
  go_ret
  exact ⟨rfl, by go_grown⟩

set_option maxRecDepth 100000 in
set_option maxHeartbeats 1000000 in
theorem rightRef_b5 (b : Bd) (p : Option Addr) (c : Nat) (w : World) (k0 : ¬ b.kind < 1) (k1 : ¬ 13 < b.kind) (h1 : b.digest.size ≤ maxLen) (h2 : b.text.size ≤ maxLen) (h3 : b.list.length < 9223372036854775807) (g1 : ¬ b.view < 0) (g2 : ¬ 1048576 < b.view) (g3 : ¬ b.seq < 0) (g4 : ¬ 1073741824 < b.seq) (g5 : b.client < 0) :
    Calls Try.prog 17 #[b.val (.slice p b.list.length c)] w fun e w' => e = .returned (.int .i64 14) ∧ Below w.heap.size w w' := by
  unfold maxLen at h1 h2
  have kd0 : decide (b.kind < 1) = false := by simpa using k0
  have kd1 : decide (13 < b.kind) = false := by simpa using k1
  have d1 : decide (b.view < 0) = false := by simpa using g1
  have d2 : decide (1048576 < b.view) = false := by simpa using g2
  have d3 : decide (b.seq < 0) = false := by simpa using g3
  have d4 : decide (1073741824 < b.seq) = false := by simpa using g4
  have d5 : decide (b.client < 0) = true := by simpa using g5
  clear k0 k1 g1 g2 g3 g4 g5
  unfold Bd.val
  go_enter Try.func17, Try.ntmps17
  go_wp2
  go_ret
  exact ⟨rfl, by go_grown⟩

set_option maxRecDepth 100000 in
set_option maxHeartbeats 1000000 in
theorem rightRef_b6 (b : Bd) (p : Option Addr) (c : Nat) (w : World) (k0 : ¬ b.kind < 1) (k1 : ¬ 13 < b.kind) (h1 : b.digest.size ≤ maxLen) (h2 : b.text.size ≤ maxLen) (h3 : b.list.length < 9223372036854775807) (g1 : ¬ b.view < 0) (g2 : ¬ 1048576 < b.view) (g3 : ¬ b.seq < 0) (g4 : ¬ 1073741824 < b.seq) (g5 : ¬ b.client < 0) (g6 : 15 < b.client) :
    Calls Try.prog 17 #[b.val (.slice p b.list.length c)] w fun e w' => e = .returned (.int .i64 14) ∧ Below w.heap.size w w' := by
  unfold maxLen at h1 h2
  have kd0 : decide (b.kind < 1) = false := by simpa using k0
  have kd1 : decide (13 < b.kind) = false := by simpa using k1
  have d1 : decide (b.view < 0) = false := by simpa using g1
  have d2 : decide (1048576 < b.view) = false := by simpa using g2
  have d3 : decide (b.seq < 0) = false := by simpa using g3
  have d4 : decide (1073741824 < b.seq) = false := by simpa using g4
  have d5 : decide (b.client < 0) = false := by simpa using g5
  have d6 : decide (15 < b.client) = true := by simpa using g6
  clear k0 k1 g1 g2 g3 g4 g5 g6
  unfold Bd.val
  go_enter Try.func17, Try.ntmps17
  go_wp2
  go_ret
  exact ⟨rfl, by go_grown⟩

set_option maxRecDepth 100000 in
set_option maxHeartbeats 1000000 in
theorem rightRef_b7 (b : Bd) (p : Option Addr) (c : Nat) (w : World) (k0 : ¬ b.kind < 1) (k1 : ¬ 13 < b.kind) (h1 : b.digest.size ≤ maxLen) (h2 : b.text.size ≤ maxLen) (h3 : b.list.length < 9223372036854775807) (g1 : ¬ b.view < 0) (g2 : ¬ 1048576 < b.view) (g3 : ¬ b.seq < 0) (g4 : ¬ 1073741824 < b.seq) (g5 : ¬ b.client < 0) (g6 : ¬ 15 < b.client) (g7 : b.stamp < 0) :
    Calls Try.prog 17 #[b.val (.slice p b.list.length c)] w fun e w' => e = .returned (.int .i64 14) ∧ Below w.heap.size w w' := by
  unfold maxLen at h1 h2
  have kd0 : decide (b.kind < 1) = false := by simpa using k0
  have kd1 : decide (13 < b.kind) = false := by simpa using k1
  have d1 : decide (b.view < 0) = false := by simpa using g1
  have d2 : decide (1048576 < b.view) = false := by simpa using g2
  have d3 : decide (b.seq < 0) = false := by simpa using g3
  have d4 : decide (1073741824 < b.seq) = false := by simpa using g4
  have d5 : decide (b.client < 0) = false := by simpa using g5
  have d6 : decide (15 < b.client) = false := by simpa using g6
  have d7 : decide (b.stamp < 0) = true := by simpa using g7
  clear k0 k1 g1 g2 g3 g4 g5 g6 g7
  unfold Bd.val
  go_enter Try.func17, Try.ntmps17
  go_wp2
  go_ret
  exact ⟨rfl, by go_grown⟩

set_option maxRecDepth 100000 in
set_option maxHeartbeats 1000000 in
theorem rightRef_b8 (b : Bd) (p : Option Addr) (c : Nat) (w : World) (k0 : ¬ b.kind < 1) (k1 : ¬ 13 < b.kind) (h1 : b.digest.size ≤ maxLen) (h2 : b.text.size ≤ maxLen) (h3 : b.list.length < 9223372036854775807) (g1 : ¬ b.view < 0) (g2 : ¬ 1048576 < b.view) (g3 : ¬ b.seq < 0) (g4 : ¬ 1073741824 < b.seq) (g5 : ¬ b.client < 0) (g6 : ¬ 15 < b.client) (g7 : ¬ b.stamp < 0) (g8 : 1099511627776 < b.stamp) :
    Calls Try.prog 17 #[b.val (.slice p b.list.length c)] w fun e w' => e = .returned (.int .i64 14) ∧ Below w.heap.size w w' := by
  unfold maxLen at h1 h2
  have kd0 : decide (b.kind < 1) = false := by simpa using k0
  have kd1 : decide (13 < b.kind) = false := by simpa using k1
  have d1 : decide (b.view < 0) = false := by simpa using g1
  have d2 : decide (1048576 < b.view) = false := by simpa using g2
  have d3 : decide (b.seq < 0) = false := by simpa using g3
  have d4 : decide (1073741824 < b.seq) = false := by simpa using g4
  have d5 : decide (b.client < 0) = false := by simpa using g5
  have d6 : decide (15 < b.client) = false := by simpa using g6
  have d7 : decide (b.stamp < 0) = false := by simpa using g7
  have d8 : decide (1099511627776 < b.stamp) = true := by simpa using g8
  clear k0 k1 g1 g2 g3 g4 g5 g6 g7 g8
  unfold Bd.val
  go_enter Try.func17, Try.ntmps17
  go_wp2
  go_ret
  exact ⟨rfl, by go_grown⟩

set_option maxRecDepth 100000 in
set_option maxHeartbeats 1000000 in
theorem rightRef_b9 (b : Bd) (p : Option Addr) (c : Nat) (w : World) (k0 : ¬ b.kind < 1) (k1 : ¬ 13 < b.kind) (h1 : b.digest.size ≤ maxLen) (h2 : b.text.size ≤ maxLen) (h3 : b.list.length < 9223372036854775807) (g1 : ¬ b.view < 0) (g2 : ¬ 1048576 < b.view) (g3 : ¬ b.seq < 0) (g4 : ¬ 1073741824 < b.seq) (g5 : ¬ b.client < 0) (g6 : ¬ 15 < b.client) (g7 : ¬ b.stamp < 0) (g8 : ¬ 1099511627776 < b.stamp) (g9 : (32 : Int) < (b.digest.size : Int)) :
    Calls Try.prog 17 #[b.val (.slice p b.list.length c)] w fun e w' => e = .returned (.int .i64 14) ∧ Below w.heap.size w w' := by
  unfold maxLen at h1 h2
  have kd0 : decide (b.kind < 1) = false := by simpa using k0
  have kd1 : decide (13 < b.kind) = false := by simpa using k1
  have d1 : decide (b.view < 0) = false := by simpa using g1
  have d2 : decide (1048576 < b.view) = false := by simpa using g2
  have d3 : decide (b.seq < 0) = false := by simpa using g3
  have d4 : decide (1073741824 < b.seq) = false := by simpa using g4
  have d5 : decide (b.client < 0) = false := by simpa using g5
  have d6 : decide (15 < b.client) = false := by simpa using g6
  have d7 : decide (b.stamp < 0) = false := by simpa using g7
  have d8 : decide (1099511627776 < b.stamp) = false := by simpa using g8
  have d9 : decide ((32 : Int) < (b.digest.size : Int)) = true := by simpa using g9
  clear k0 k1 g1 g2 g3 g4 g5 g6 g7 g8 g9
  unfold Bd.val
  go_enter Try.func17, Try.ntmps17
  go_wp2
  go_ret
  exact ⟨rfl, by go_grown⟩

set_option maxRecDepth 100000 in
set_option maxHeartbeats 1000000 in
theorem rightRef_b10 (b : Bd) (p : Option Addr) (c : Nat) (w : World) (k0 : ¬ b.kind < 1) (k1 : ¬ 13 < b.kind) (h1 : b.digest.size ≤ maxLen) (h2 : b.text.size ≤ maxLen) (h3 : b.list.length < 9223372036854775807) (g1 : ¬ b.view < 0) (g2 : ¬ 1048576 < b.view) (g3 : ¬ b.seq < 0) (g4 : ¬ 1073741824 < b.seq) (g5 : ¬ b.client < 0) (g6 : ¬ 15 < b.client) (g7 : ¬ b.stamp < 0) (g8 : ¬ 1099511627776 < b.stamp) (g9 : ¬ (32 : Int) < (b.digest.size : Int)) (g10 : (1048576 : Int) < (b.text.size : Int)) :
    Calls Try.prog 17 #[b.val (.slice p b.list.length c)] w fun e w' => e = .returned (.int .i64 14) ∧ Below w.heap.size w w' := by
  unfold maxLen at h1 h2
  have kd0 : decide (b.kind < 1) = false := by simpa using k0
  have kd1 : decide (13 < b.kind) = false := by simpa using k1
  have d1 : decide (b.view < 0) = false := by simpa using g1
  have d2 : decide (1048576 < b.view) = false := by simpa using g2
  have d3 : decide (b.seq < 0) = false := by simpa using g3
  have d4 : decide (1073741824 < b.seq) = false := by simpa using g4
  have d5 : decide (b.client < 0) = false := by simpa using g5
  have d6 : decide (15 < b.client) = false := by simpa using g6
  have d7 : decide (b.stamp < 0) = false := by simpa using g7
  have d8 : decide (1099511627776 < b.stamp) = false := by simpa using g8
  have d9 : decide ((32 : Int) < (b.digest.size : Int)) = false := by simpa using g9
  have d10 : decide ((1048576 : Int) < (b.text.size : Int)) = true := by simpa using g10
  clear k0 k1 g1 g2 g3 g4 g5 g6 g7 g8 g9 g10
  unfold Bd.val
  go_enter Try.func17, Try.ntmps17
  go_wp2
  go_ret
  exact ⟨rfl, by go_grown⟩

set_option maxRecDepth 100000 in
set_option maxHeartbeats 1000000 in
theorem rightRef_b11 (b : Bd) (p : Option Addr) (c : Nat) (w : World) (k0 : ¬ b.kind < 1) (k1 : ¬ 13 < b.kind) (h1 : b.digest.size ≤ maxLen) (h2 : b.text.size ≤ maxLen) (h3 : b.list.length < 9223372036854775807) (g1 : ¬ b.view < 0) (g2 : ¬ 1048576 < b.view) (g3 : ¬ b.seq < 0) (g4 : ¬ 1073741824 < b.seq) (g5 : ¬ b.client < 0) (g6 : ¬ 15 < b.client) (g7 : ¬ b.stamp < 0) (g8 : ¬ 1099511627776 < b.stamp) (g9 : ¬ (32 : Int) < (b.digest.size : Int)) (g10 : ¬ (1048576 : Int) < (b.text.size : Int)) (g11 : (64 : Int) < (b.list.length : Int)) :
    Calls Try.prog 17 #[b.val (.slice p b.list.length c)] w fun e w' => e = .returned (.int .i64 14) ∧ Below w.heap.size w w' := by
  unfold maxLen at h1 h2
  have kd0 : decide (b.kind < 1) = false := by simpa using k0
  have kd1 : decide (13 < b.kind) = false := by simpa using k1
  have d1 : decide (b.view < 0) = false := by simpa using g1
  have d2 : decide (1048576 < b.view) = false := by simpa using g2
  have d3 : decide (b.seq < 0) = false := by simpa using g3
  have d4 : decide (1073741824 < b.seq) = false := by simpa using g4
  have d5 : decide (b.client < 0) = false := by simpa using g5
  have d6 : decide (15 < b.client) = false := by simpa using g6
  have d7 : decide (b.stamp < 0) = false := by simpa using g7
  have d8 : decide (1099511627776 < b.stamp) = false := by simpa using g8
  have d9 : decide ((32 : Int) < (b.digest.size : Int)) = false := by simpa using g9
  have d10 : decide ((1048576 : Int) < (b.text.size : Int)) = false := by simpa using g10
  have d11 : decide ((64 : Int) < (b.list.length : Int)) = true := by simpa using g11
  clear k0 k1 g1 g2 g3 g4 g5 g6 g7 g8 g9 g10 g11
  unfold Bd.val
  go_enter Try.func17, Try.ntmps17
  go_wp2
  go_ret
  exact ⟨rfl, by go_grown⟩

set_option maxRecDepth 100000 in
set_option maxHeartbeats 1000000 in
theorem rightRef_b12 (b : Bd) (p : Option Addr) (c : Nat) (w : World) (k0 : ¬ b.kind < 1) (k1 : ¬ 13 < b.kind) (h1 : b.digest.size ≤ maxLen) (h2 : b.text.size ≤ maxLen) (g1 : ¬ b.view < 0) (g2 : ¬ 1048576 < b.view) (g3 : ¬ b.seq < 0) (g4 : ¬ 1073741824 < b.seq) (g5 : ¬ b.client < 0) (g6 : ¬ 15 < b.client) (g7 : ¬ b.stamp < 0) (g8 : ¬ 1099511627776 < b.stamp) (g9 : ¬ (32 : Int) < (b.digest.size : Int)) (g10 : ¬ (1048576 : Int) < (b.text.size : Int)) (g11 : ¬ (64 : Int) < (b.list.length : Int)) (h3 : b.list.length < 9223372036854775807) (hl : Sgs w (.slice p b.list.length c) b.list) (ha : b.list.all sgOk = false) :
    Calls Try.prog 17 #[b.val (.slice p b.list.length c)] w fun e w' => e = .returned (.int .i64 14) ∧ Below w.heap.size w w' := by
  unfold maxLen at h1 h2
  have kd0 : decide (b.kind < 1) = false := by simpa using k0
  have kd1 : decide (13 < b.kind) = false := by simpa using k1
  have d1 : decide (b.view < 0) = false := by simpa using g1
  have d2 : decide (1048576 < b.view) = false := by simpa using g2
  have d3 : decide (b.seq < 0) = false := by simpa using g3
  have d4 : decide (1073741824 < b.seq) = false := by simpa using g4
  have d5 : decide (b.client < 0) = false := by simpa using g5
  have d6 : decide (15 < b.client) = false := by simpa using g6
  have d7 : decide (b.stamp < 0) = false := by simpa using g7
  have d8 : decide (1099511627776 < b.stamp) = false := by simpa using g8
  have d9 : decide ((32 : Int) < (b.digest.size : Int)) = false := by simpa using g9
  have d10 : decide ((1048576 : Int) < (b.text.size : Int)) = false := by simpa using g10
  have d11 : decide ((64 : Int) < (b.list.length : Int)) = false := by simpa using g11
  clear k0 k1 g1 g2 g3 g4 g5 g6 g7 g8 g9 g10 g11
  have hnot : ∀ (x : Bool) (w : World), (Op.unary .not (.bool x)).run Try.prog w = .ok (.bool (!x)) w := fun _ _ => rfl
  have hfa := fun wx (hb : Below w.heap.size w wx) => fitAll_ref (.slice p b.list.length c) b.list wx (hl.below hb) h3
  rw [ha] at hfa
  have HFA : Hid _ := hfa
  clear hfa hl ha
  unfold Bd.val
  go_enter Try.func17, Try.ntmps17
  go_wp2_with fail
  refine (HFA.out _ (by go_grown)).mono ?_
  rintro e w1 ⟨rfl, b1⟩
  have B1 : Below w.heap.size w w1 := (show Below w.heap.size w _ by go_grown).trans (b1.mono (by simp))
  go_wp2
  go_ret
  exact ⟨rfl, B1⟩

theorem right_none {b : Bd} (h : ¬ (1 ≤ b.kind ∧ b.kind ≤ 13)) : right b = 13 := by
  unfold right; rw [shape_other _ h]

theorem rightRef_calls (b : Bd) (lv : Value) (w : World) (h1 : b.digest.size ≤ maxLen) (h2 : b.text.size ≤ maxLen) (h3 : b.list.length < 9223372036854775807) (hl : Sgs w lv b.list) :
    Calls Try.prog 17 #[b.val lv] w fun e w' => e = .returned (.int .i64 (right b)) ∧ Below w.heap.size w w' := by
  obtain ⟨p, c, rfl⟩ := hl.len
  by_cases k0 : b.kind < 1
  · rw [right_none (by omega)]; exact rightRef_lo b p c w k0
  by_cases k1 : 13 < b.kind
  · rw [right_none (by omega)]; exact rightRef_hi b p c w k0 k1
  have hk : 1 ≤ b.kind ∧ b.kind ≤ 13 := by omega
  by_cases g1 : b.view < 0
  · rw [right_bad hk (fun r => r.v0 g1)]; exact rightRef_b1 b p c w k0 k1 h1 h2 h3 g1
  by_cases g2 : 1048576 < b.view
  · rw [right_bad hk (fun r => r.v1 g2)]; exact rightRef_b2 b p c w k0 k1 h1 h2 h3 g1 g2
  by_cases g3 : b.seq < 0
  · rw [right_bad hk (fun r => r.s0 g3)]; exact rightRef_b3 b p c w k0 k1 h1 h2 h3 g1 g2 g3
  by_cases g4 : 1073741824 < b.seq
  · rw [right_bad hk (fun r => r.s1 g4)]; exact rightRef_b4 b p c w k0 k1 h1 h2 h3 g1 g2 g3 g4
  by_cases g5 : b.client < 0
  · rw [right_bad hk (fun r => r.c0 g5)]; exact rightRef_b5 b p c w k0 k1 h1 h2 h3 g1 g2 g3 g4 g5
  by_cases g6 : 15 < b.client
  · rw [right_bad hk (fun r => r.c1 g6)]; exact rightRef_b6 b p c w k0 k1 h1 h2 h3 g1 g2 g3 g4 g5 g6
  by_cases g7 : b.stamp < 0
  · rw [right_bad hk (fun r => r.t0 g7)]; exact rightRef_b7 b p c w k0 k1 h1 h2 h3 g1 g2 g3 g4 g5 g6 g7
  by_cases g8 : 1099511627776 < b.stamp
  · rw [right_bad hk (fun r => r.t1 g8)]; exact rightRef_b8 b p c w k0 k1 h1 h2 h3 g1 g2 g3 g4 g5 g6 g7 g8
  by_cases g9 : (32 : Int) < (b.digest.size : Int)
  · rw [right_bad hk (fun r => r.d g9)]; exact rightRef_b9 b p c w k0 k1 h1 h2 h3 g1 g2 g3 g4 g5 g6 g7 g8 g9
  by_cases g10 : (1048576 : Int) < (b.text.size : Int)
  · rw [right_bad hk (fun r => r.x g10)]; exact rightRef_b10 b p c w k0 k1 h1 h2 h3 g1 g2 g3 g4 g5 g6 g7 g8 g9 g10
  by_cases g11 : (64 : Int) < (b.list.length : Int)
  · rw [right_bad hk (fun r => r.l g11)]; exact rightRef_b11 b p c w k0 k1 h1 h2 h3 g1 g2 g3 g4 g5 g6 g7 g8 g9 g10 g11
  cases ha : b.list.all sgOk with
  | false => rw [right_bad hk (fun r => by have := r.a; rw [ha] at this; cases this)]; exact rightRef_b12 b p c w k0 k1 h1 h2 g1 g2 g3 g4 g5 g6 g7 g8 g9 g10 g11 h3 hl ha
  | true =>
    have hR : Rg b := ⟨g1, g2, g3, g4, g5, g6, g7, g8, g9, g10, g11, ha⟩
    have hn : b.kind = 1 ∨ b.kind = 2 ∨ b.kind = 3 ∨ b.kind = 4 ∨ b.kind = 5 ∨ b.kind = 6 ∨ b.kind = 7 ∨ b.kind = 8 ∨ b.kind = 9 ∨ b.kind = 10 ∨ b.kind = 11 ∨ b.kind = 12 ∨ b.kind = 13 := by omega
    rcases hn with h | h | h | h | h | h | h | h | h | h | h | h | h
    · exact rightRef_1 b p c w h hR h1 h2 h3 hl
    · exact rightRef_2 b p c w h hR h1 h2 h3 hl
    · exact rightRef_3 b p c w h hR h1 h2 h3 hl
    · exact rightRef_4 b p c w h hR h1 h2 h3 hl
    · exact rightRef_5 b p c w h hR h1 h2 h3 hl
    · exact rightRef_6 b p c w h hR h1 h2 h3 hl
    · exact rightRef_7 b p c w h hR h1 h2 h3 hl
    · exact rightRef_8 b p c w h hR h1 h2 h3 hl
    · exact rightRef_9 b p c w h hR h1 h2 h3 hl
    · exact rightRef_10 b p c w h hR h1 h2 h3 hl
    · exact rightRef_11 b p c w h hR h1 h2 h3 hl
    · exact rightRef_12 b p c w h hR h1 h2 h3 hl
    · exact rightRef_13 b p c w h hR h1 h2 h3 hl
end Go.Proofs.Ytbfipafhmbgnnaa
