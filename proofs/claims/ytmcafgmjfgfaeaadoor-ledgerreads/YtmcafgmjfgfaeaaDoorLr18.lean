/- around and done: which call is meant, and the call. -/
import Derived.Test.YtmcafgmjfgfaeaaDoorLr13
import Derived.Test.YtmcafgmjfgfaeaaDoorLr14
import Derived.Test.YtmcafgmjfgfaeaaDoorLr15
import Derived.Test.YtmcafgmjfgfaeaaDoorLr16
import Derived.Test.YtmcafgmjfgfaeaaDoorLr17
namespace Go.Proofs.YtmcafgmjfgfaeaaDoor
open Go.RowKit
set_option linter.unusedSimpArgs false
set_option linter.unusedVariables false
variable {p b g : Nat} {l : List Kt}

theorem around_calls (n d : Int) (w : World) (hd : 0 < d) (hz : d < 1000) : Calls Tryd.prog 17 #[.int .i64 n, .int .i64 d] w fun e w' => e = .returned (.int .i64 (rest n d.toNat)) ∧ w' = w := by
  have hne : ¬ d = 0 := by omega
  have hb0 : (d == 0) = false := by simpa using hne
  have hlt : n.tmod d < d := Int.tmod_lt_of_pos n hd
  have hgt : -d < n.tmod d := by
    have h1 := Int.natAbs_tmod n d
    have h2 := Nat.mod_lt n.natAbs (show 0 < d.natAbs by omega)
    omega
  have hre : ((rest n d.toNat : Nat) : Int) = if n.tmod d < 0 then 0 - n.tmod d else n.tmod d := by
    unfold rest
    rw [Int.toNat_of_nonneg (by omega)]
    split <;> omega
  have HR : Hid _ := hre
  clear hre
  by_cases h : n.tmod d < 0
  · have hdd : decide (n.tmod d < 0) = true := decide_eq_true h
    generalize hm : n.tmod d = m at *
    have hw : IntKind.i64.wrap m = m := by rw [IntKind.wrap_i64]; omega
    have HM : Hid _ := hm
    go_enter Tryd.func17, Tryd.ntmps17
    go_wp2
    go_ret
    refine ⟨?_, rfl⟩
    rw [HR.out, if_pos h]; simp
  · have hdd : decide (n.tmod d < 0) = false := decide_eq_false h
    generalize hm : n.tmod d = m at *
    have hw : IntKind.i64.wrap m = m := by rw [IntKind.wrap_i64]; omega
    have HM : Hid _ := hm
    go_enter Tryd.func17, Tryd.ntmps17
    go_wp2
    go_ret
    refine ⟨?_, rfl⟩
    rw [HR.out, if_neg (by omega)]; rfl

/-- A call as a value. -/
def Ac.val (a : Ac) : Value := .agg #[.int .i64 a.kind, .int .i64 a.who, .int .i64 a.dst, .int .i64 a.good, .int .i64 a.n, .string a.text]

set_option maxRecDepth 100000 in
theorem done_0 (w : World) (h : Lg w p b g l) (a : Ac) (ht : a.text.size ≤ 281474976710656) (r : Int × List Kt) (hr : act g l a = r) (hk : rest a.kind 11 = 0) :
    Calls Tryd.prog 8 #[.pointer (some ⟨p, 0, none⟩), a.val] w fun e w' => e = .returned (.int .i64 r.1) ∧ Lg w' p b g r.2 ∧ Off b w w' := by
  obtain ⟨W1, hW1, X1, B1⟩ : ∃ W1, (w.alloc (.cells #[.int .i64 a.kind, .int .i64 a.who, .int .i64 a.dst, .int .i64 a.good, .int .i64 a.n, .string a.text] 24)) = W1 ∧ Blk W1 w.heap.size #[.int .i64 a.kind, .int .i64 a.who, .int .i64 a.dst, .int .i64 a.good, .int .i64 a.n, .string a.text] 24 ∧ Below w.heap.size w W1 := ⟨_, rfl, blk_new _ _ _ _ rfl, by go_grown⟩
  have hL := h.below B1
  have O1 : Off b w W1 := Off.of_below B1
  have har := around_calls a.kind 11 W1 (by omega) (by omega)
  rw [show ((rest a.kind (11 : Int).toNat : Nat) : Int) = 0 by rw [show (11 : Int).toNat = 11 from rfl, hk]; rfl] at har
  have e0 : W1.cell? ⟨w.heap.size, 0, none⟩ = some (.int .i64 a.kind) := X1.cell rfl
  have e1 : W1.cell? ⟨w.heap.size, 1, none⟩ = some (.int .i64 a.who) := X1.cell rfl
  have e2 : W1.cell? ⟨w.heap.size, 2, none⟩ = some (.int .i64 a.dst) := X1.cell rfl
  have e3 : W1.cell? ⟨w.heap.size, 3, none⟩ = some (.int .i64 a.good) := X1.cell rfl
  have e4 : W1.cell? ⟨w.heap.size, 4, none⟩ = some (.int .i64 a.n) := X1.cell rfl
  have e5 : W1.cell? ⟨w.heap.size, 5, none⟩ = some (.string a.text) := X1.cell rfl
  have hc := pay_calls W1 hL a.who a.n r (by rw [← hr]; unfold act; rw [hk]; rfl)
  clear hr hk
  unfold Ac.val
  go_enter Tryd.func8, Tryd.ntmps8
  go_wp2_with fail
  refine har.mono ?_
  rintro e w1 ⟨rfl, rfl⟩
  go_wp2_with fail
  refine hc.mono ?_
  rintro e w2 ⟨rfl, L2, O2⟩
  go_wp2
  go_ret
  exact ⟨rfl, L2, O1.trans O2⟩

set_option maxRecDepth 100000 in
theorem done_1 (w : World) (h : Lg w p b g l) (a : Ac) (ht : a.text.size ≤ 281474976710656) (r : Int × List Kt) (hr : act g l a = r) (hk : rest a.kind 11 = 1) :
    Calls Tryd.prog 8 #[.pointer (some ⟨p, 0, none⟩), a.val] w fun e w' => e = .returned (.int .i64 r.1) ∧ Lg w' p b g r.2 ∧ Off b w w' := by
  obtain ⟨W1, hW1, X1, B1⟩ : ∃ W1, (w.alloc (.cells #[.int .i64 a.kind, .int .i64 a.who, .int .i64 a.dst, .int .i64 a.good, .int .i64 a.n, .string a.text] 24)) = W1 ∧ Blk W1 w.heap.size #[.int .i64 a.kind, .int .i64 a.who, .int .i64 a.dst, .int .i64 a.good, .int .i64 a.n, .string a.text] 24 ∧ Below w.heap.size w W1 := ⟨_, rfl, blk_new _ _ _ _ rfl, by go_grown⟩
  have hL := h.below B1
  have O1 : Off b w W1 := Off.of_below B1
  have har := around_calls a.kind 11 W1 (by omega) (by omega)
  rw [show ((rest a.kind (11 : Int).toNat : Nat) : Int) = 1 by rw [show (11 : Int).toNat = 11 from rfl, hk]; rfl] at har
  have e0 : W1.cell? ⟨w.heap.size, 0, none⟩ = some (.int .i64 a.kind) := X1.cell rfl
  have e1 : W1.cell? ⟨w.heap.size, 1, none⟩ = some (.int .i64 a.who) := X1.cell rfl
  have e2 : W1.cell? ⟨w.heap.size, 2, none⟩ = some (.int .i64 a.dst) := X1.cell rfl
  have e3 : W1.cell? ⟨w.heap.size, 3, none⟩ = some (.int .i64 a.good) := X1.cell rfl
  have e4 : W1.cell? ⟨w.heap.size, 4, none⟩ = some (.int .i64 a.n) := X1.cell rfl
  have e5 : W1.cell? ⟨w.heap.size, 5, none⟩ = some (.string a.text) := X1.cell rfl
  have hc := take_calls W1 hL a.who a.n r (by rw [← hr]; unfold act; rw [hk]; rfl)
  clear hr hk
  unfold Ac.val
  go_enter Tryd.func8, Tryd.ntmps8
  go_wp2_with fail
  refine har.mono ?_
  rintro e w1 ⟨rfl, rfl⟩
  go_wp2_with fail
  refine hc.mono ?_
  rintro e w2 ⟨rfl, L2, O2⟩
  go_wp2
  go_ret
  exact ⟨rfl, L2, O1.trans O2⟩

set_option maxRecDepth 100000 in
theorem done_2 (w : World) (h : Lg w p b g l) (a : Ac) (ht : a.text.size ≤ 281474976710656) (r : Int × List Kt) (hr : act g l a = r) (hk : rest a.kind 11 = 2) :
    Calls Tryd.prog 8 #[.pointer (some ⟨p, 0, none⟩), a.val] w fun e w' => e = .returned (.int .i64 r.1) ∧ Lg w' p b g r.2 ∧ Off b w w' := by
  obtain ⟨W1, hW1, X1, B1⟩ : ∃ W1, (w.alloc (.cells #[.int .i64 a.kind, .int .i64 a.who, .int .i64 a.dst, .int .i64 a.good, .int .i64 a.n, .string a.text] 24)) = W1 ∧ Blk W1 w.heap.size #[.int .i64 a.kind, .int .i64 a.who, .int .i64 a.dst, .int .i64 a.good, .int .i64 a.n, .string a.text] 24 ∧ Below w.heap.size w W1 := ⟨_, rfl, blk_new _ _ _ _ rfl, by go_grown⟩
  have hL := h.below B1
  have O1 : Off b w W1 := Off.of_below B1
  have har := around_calls a.kind 11 W1 (by omega) (by omega)
  rw [show ((rest a.kind (11 : Int).toNat : Nat) : Int) = 2 by rw [show (11 : Int).toNat = 11 from rfl, hk]; rfl] at har
  have e0 : W1.cell? ⟨w.heap.size, 0, none⟩ = some (.int .i64 a.kind) := X1.cell rfl
  have e1 : W1.cell? ⟨w.heap.size, 1, none⟩ = some (.int .i64 a.who) := X1.cell rfl
  have e2 : W1.cell? ⟨w.heap.size, 2, none⟩ = some (.int .i64 a.dst) := X1.cell rfl
  have e3 : W1.cell? ⟨w.heap.size, 3, none⟩ = some (.int .i64 a.good) := X1.cell rfl
  have e4 : W1.cell? ⟨w.heap.size, 4, none⟩ = some (.int .i64 a.n) := X1.cell rfl
  have e5 : W1.cell? ⟨w.heap.size, 5, none⟩ = some (.string a.text) := X1.cell rfl
  have hc := store_calls W1 hL a.who a.good a.n r (by rw [← hr]; unfold act; rw [hk]; rfl)
  clear hr hk
  unfold Ac.val
  go_enter Tryd.func8, Tryd.ntmps8
  go_wp2_with fail
  refine har.mono ?_
  rintro e w1 ⟨rfl, rfl⟩
  go_wp2_with fail
  refine hc.mono ?_
  rintro e w2 ⟨rfl, L2, O2⟩
  go_wp2
  go_ret
  exact ⟨rfl, L2, O1.trans O2⟩

set_option maxRecDepth 100000 in
theorem done_3 (w : World) (h : Lg w p b g l) (a : Ac) (ht : a.text.size ≤ 281474976710656) (r : Int × List Kt) (hr : act g l a = r) (hk : rest a.kind 11 = 3) :
    Calls Tryd.prog 8 #[.pointer (some ⟨p, 0, none⟩), a.val] w fun e w' => e = .returned (.int .i64 r.1) ∧ Lg w' p b g r.2 ∧ Off b w w' := by
  obtain ⟨W1, hW1, X1, B1⟩ : ∃ W1, (w.alloc (.cells #[.int .i64 a.kind, .int .i64 a.who, .int .i64 a.dst, .int .i64 a.good, .int .i64 a.n, .string a.text] 24)) = W1 ∧ Blk W1 w.heap.size #[.int .i64 a.kind, .int .i64 a.who, .int .i64 a.dst, .int .i64 a.good, .int .i64 a.n, .string a.text] 24 ∧ Below w.heap.size w W1 := ⟨_, rfl, blk_new _ _ _ _ rfl, by go_grown⟩
  have hL := h.below B1
  have O1 : Off b w W1 := Off.of_below B1
  have har := around_calls a.kind 11 W1 (by omega) (by omega)
  rw [show ((rest a.kind (11 : Int).toNat : Nat) : Int) = 3 by rw [show (11 : Int).toNat = 11 from rfl, hk]; rfl] at har
  have e0 : W1.cell? ⟨w.heap.size, 0, none⟩ = some (.int .i64 a.kind) := X1.cell rfl
  have e1 : W1.cell? ⟨w.heap.size, 1, none⟩ = some (.int .i64 a.who) := X1.cell rfl
  have e2 : W1.cell? ⟨w.heap.size, 2, none⟩ = some (.int .i64 a.dst) := X1.cell rfl
  have e3 : W1.cell? ⟨w.heap.size, 3, none⟩ = some (.int .i64 a.good) := X1.cell rfl
  have e4 : W1.cell? ⟨w.heap.size, 4, none⟩ = some (.int .i64 a.n) := X1.cell rfl
  have e5 : W1.cell? ⟨w.heap.size, 5, none⟩ = some (.string a.text) := X1.cell rfl
  have hc := fetch_calls W1 hL a.who a.good a.n r (by rw [← hr]; unfold act; rw [hk]; rfl)
  clear hr hk
  unfold Ac.val
  go_enter Tryd.func8, Tryd.ntmps8
  go_wp2_with fail
  refine har.mono ?_
  rintro e w1 ⟨rfl, rfl⟩
  go_wp2_with fail
  refine hc.mono ?_
  rintro e w2 ⟨rfl, L2, O2⟩
  go_wp2
  go_ret
  exact ⟨rfl, L2, O1.trans O2⟩

set_option maxRecDepth 100000 in
theorem done_4 (w : World) (h : Lg w p b g l) (a : Ac) (ht : a.text.size ≤ 281474976710656) (r : Int × List Kt) (hr : act g l a = r) (hk : rest a.kind 11 = 4) :
    Calls Tryd.prog 8 #[.pointer (some ⟨p, 0, none⟩), a.val] w fun e w' => e = .returned (.int .i64 r.1) ∧ Lg w' p b g r.2 ∧ Off b w w' := by
  obtain ⟨W1, hW1, X1, B1⟩ : ∃ W1, (w.alloc (.cells #[.int .i64 a.kind, .int .i64 a.who, .int .i64 a.dst, .int .i64 a.good, .int .i64 a.n, .string a.text] 24)) = W1 ∧ Blk W1 w.heap.size #[.int .i64 a.kind, .int .i64 a.who, .int .i64 a.dst, .int .i64 a.good, .int .i64 a.n, .string a.text] 24 ∧ Below w.heap.size w W1 := ⟨_, rfl, blk_new _ _ _ _ rfl, by go_grown⟩
  have hL := h.below B1
  have O1 : Off b w W1 := Off.of_below B1
  have har := around_calls a.kind 11 W1 (by omega) (by omega)
  rw [show ((rest a.kind (11 : Int).toNat : Nat) : Int) = 4 by rw [show (11 : Int).toNat = 11 from rfl, hk]; rfl] at har
  have e0 : W1.cell? ⟨w.heap.size, 0, none⟩ = some (.int .i64 a.kind) := X1.cell rfl
  have e1 : W1.cell? ⟨w.heap.size, 1, none⟩ = some (.int .i64 a.who) := X1.cell rfl
  have e2 : W1.cell? ⟨w.heap.size, 2, none⟩ = some (.int .i64 a.dst) := X1.cell rfl
  have e3 : W1.cell? ⟨w.heap.size, 3, none⟩ = some (.int .i64 a.good) := X1.cell rfl
  have e4 : W1.cell? ⟨w.heap.size, 4, none⟩ = some (.int .i64 a.n) := X1.cell rfl
  have e5 : W1.cell? ⟨w.heap.size, 5, none⟩ = some (.string a.text) := X1.cell rfl
  have hc := hold_calls W1 hL a.who a.n r (by rw [← hr]; unfold act; rw [hk]; rfl)
  clear hr hk
  unfold Ac.val
  go_enter Tryd.func8, Tryd.ntmps8
  go_wp2_with fail
  refine har.mono ?_
  rintro e w1 ⟨rfl, rfl⟩
  go_wp2_with fail
  refine hc.mono ?_
  rintro e w2 ⟨rfl, L2, O2⟩
  go_wp2
  go_ret
  exact ⟨rfl, L2, O1.trans O2⟩

set_option maxRecDepth 100000 in
theorem done_5 (w : World) (h : Lg w p b g l) (a : Ac) (ht : a.text.size ≤ 281474976710656) (r : Int × List Kt) (hr : act g l a = r) (hk : rest a.kind 11 = 5) :
    Calls Tryd.prog 8 #[.pointer (some ⟨p, 0, none⟩), a.val] w fun e w' => e = .returned (.int .i64 r.1) ∧ Lg w' p b g r.2 ∧ Off b w w' := by
  obtain ⟨W1, hW1, X1, B1⟩ : ∃ W1, (w.alloc (.cells #[.int .i64 a.kind, .int .i64 a.who, .int .i64 a.dst, .int .i64 a.good, .int .i64 a.n, .string a.text] 24)) = W1 ∧ Blk W1 w.heap.size #[.int .i64 a.kind, .int .i64 a.who, .int .i64 a.dst, .int .i64 a.good, .int .i64 a.n, .string a.text] 24 ∧ Below w.heap.size w W1 := ⟨_, rfl, blk_new _ _ _ _ rfl, by go_grown⟩
  have hL := h.below B1
  have O1 : Off b w W1 := Off.of_below B1
  have har := around_calls a.kind 11 W1 (by omega) (by omega)
  rw [show ((rest a.kind (11 : Int).toNat : Nat) : Int) = 5 by rw [show (11 : Int).toNat = 11 from rfl, hk]; rfl] at har
  have e0 : W1.cell? ⟨w.heap.size, 0, none⟩ = some (.int .i64 a.kind) := X1.cell rfl
  have e1 : W1.cell? ⟨w.heap.size, 1, none⟩ = some (.int .i64 a.who) := X1.cell rfl
  have e2 : W1.cell? ⟨w.heap.size, 2, none⟩ = some (.int .i64 a.dst) := X1.cell rfl
  have e3 : W1.cell? ⟨w.heap.size, 3, none⟩ = some (.int .i64 a.good) := X1.cell rfl
  have e4 : W1.cell? ⟨w.heap.size, 4, none⟩ = some (.int .i64 a.n) := X1.cell rfl
  have e5 : W1.cell? ⟨w.heap.size, 5, none⟩ = some (.string a.text) := X1.cell rfl
  have hc := free_calls W1 hL a.who a.n r (by rw [← hr]; unfold act; rw [hk]; rfl)
  clear hr hk
  unfold Ac.val
  go_enter Tryd.func8, Tryd.ntmps8
  go_wp2_with fail
  refine har.mono ?_
  rintro e w1 ⟨rfl, rfl⟩
  go_wp2_with fail
  refine hc.mono ?_
  rintro e w2 ⟨rfl, L2, O2⟩
  go_wp2
  go_ret
  exact ⟨rfl, L2, O1.trans O2⟩

set_option maxRecDepth 100000 in
theorem done_6 (w : World) (h : Lg w p b g l) (a : Ac) (ht : a.text.size ≤ 281474976710656) (r : Int × List Kt) (hr : act g l a = r) (hk : rest a.kind 11 = 6) :
    Calls Tryd.prog 8 #[.pointer (some ⟨p, 0, none⟩), a.val] w fun e w' => e = .returned (.int .i64 r.1) ∧ Lg w' p b g r.2 ∧ Off b w w' := by
  obtain ⟨W1, hW1, X1, B1⟩ : ∃ W1, (w.alloc (.cells #[.int .i64 a.kind, .int .i64 a.who, .int .i64 a.dst, .int .i64 a.good, .int .i64 a.n, .string a.text] 24)) = W1 ∧ Blk W1 w.heap.size #[.int .i64 a.kind, .int .i64 a.who, .int .i64 a.dst, .int .i64 a.good, .int .i64 a.n, .string a.text] 24 ∧ Below w.heap.size w W1 := ⟨_, rfl, blk_new _ _ _ _ rfl, by go_grown⟩
  have hL := h.below B1
  have O1 : Off b w W1 := Off.of_below B1
  have har := around_calls a.kind 11 W1 (by omega) (by omega)
  rw [show ((rest a.kind (11 : Int).toNat : Nat) : Int) = 6 by rw [show (11 : Int).toNat = 11 from rfl, hk]; rfl] at har
  have e0 : W1.cell? ⟨w.heap.size, 0, none⟩ = some (.int .i64 a.kind) := X1.cell rfl
  have e1 : W1.cell? ⟨w.heap.size, 1, none⟩ = some (.int .i64 a.who) := X1.cell rfl
  have e2 : W1.cell? ⟨w.heap.size, 2, none⟩ = some (.int .i64 a.dst) := X1.cell rfl
  have e3 : W1.cell? ⟨w.heap.size, 3, none⟩ = some (.int .i64 a.good) := X1.cell rfl
  have e4 : W1.cell? ⟨w.heap.size, 4, none⟩ = some (.int .i64 a.n) := X1.cell rfl
  have e5 : W1.cell? ⟨w.heap.size, 5, none⟩ = some (.string a.text) := X1.cell rfl
  have hc := lock_calls W1 hL a.who a.good a.n r (by rw [← hr]; unfold act; rw [hk]; rfl)
  clear hr hk
  unfold Ac.val
  go_enter Tryd.func8, Tryd.ntmps8
  go_wp2_with fail
  refine har.mono ?_
  rintro e w1 ⟨rfl, rfl⟩
  go_wp2_with fail
  refine hc.mono ?_
  rintro e w2 ⟨rfl, L2, O2⟩
  go_wp2
  go_ret
  exact ⟨rfl, L2, O1.trans O2⟩

set_option maxRecDepth 100000 in
theorem done_7 (w : World) (h : Lg w p b g l) (a : Ac) (ht : a.text.size ≤ 281474976710656) (r : Int × List Kt) (hr : act g l a = r) (hk : rest a.kind 11 = 7) :
    Calls Tryd.prog 8 #[.pointer (some ⟨p, 0, none⟩), a.val] w fun e w' => e = .returned (.int .i64 r.1) ∧ Lg w' p b g r.2 ∧ Off b w w' := by
  obtain ⟨W1, hW1, X1, B1⟩ : ∃ W1, (w.alloc (.cells #[.int .i64 a.kind, .int .i64 a.who, .int .i64 a.dst, .int .i64 a.good, .int .i64 a.n, .string a.text] 24)) = W1 ∧ Blk W1 w.heap.size #[.int .i64 a.kind, .int .i64 a.who, .int .i64 a.dst, .int .i64 a.good, .int .i64 a.n, .string a.text] 24 ∧ Below w.heap.size w W1 := ⟨_, rfl, blk_new _ _ _ _ rfl, by go_grown⟩
  have hL := h.below B1
  have O1 : Off b w W1 := Off.of_below B1
  have har := around_calls a.kind 11 W1 (by omega) (by omega)
  rw [show ((rest a.kind (11 : Int).toNat : Nat) : Int) = 7 by rw [show (11 : Int).toNat = 11 from rfl, hk]; rfl] at har
  have e0 : W1.cell? ⟨w.heap.size, 0, none⟩ = some (.int .i64 a.kind) := X1.cell rfl
  have e1 : W1.cell? ⟨w.heap.size, 1, none⟩ = some (.int .i64 a.who) := X1.cell rfl
  have e2 : W1.cell? ⟨w.heap.size, 2, none⟩ = some (.int .i64 a.dst) := X1.cell rfl
  have e3 : W1.cell? ⟨w.heap.size, 3, none⟩ = some (.int .i64 a.good) := X1.cell rfl
  have e4 : W1.cell? ⟨w.heap.size, 4, none⟩ = some (.int .i64 a.n) := X1.cell rfl
  have e5 : W1.cell? ⟨w.heap.size, 5, none⟩ = some (.string a.text) := X1.cell rfl
  have hc := unlock_calls W1 hL a.who a.good a.n r (by rw [← hr]; unfold act; rw [hk]; rfl)
  clear hr hk
  unfold Ac.val
  go_enter Tryd.func8, Tryd.ntmps8
  go_wp2_with fail
  refine har.mono ?_
  rintro e w1 ⟨rfl, rfl⟩
  go_wp2_with fail
  refine hc.mono ?_
  rintro e w2 ⟨rfl, L2, O2⟩
  go_wp2
  go_ret
  exact ⟨rfl, L2, O1.trans O2⟩

set_option maxRecDepth 100000 in
theorem done_8 (w : World) (h : Lg w p b g l) (a : Ac) (ht : a.text.size ≤ 281474976710656) (r : Int × List Kt) (hr : act g l a = r) (hk : rest a.kind 11 = 8) :
    Calls Tryd.prog 8 #[.pointer (some ⟨p, 0, none⟩), a.val] w fun e w' => e = .returned (.int .i64 r.1) ∧ Lg w' p b g r.2 ∧ Off b w w' := by
  obtain ⟨W1, hW1, X1, B1⟩ : ∃ W1, (w.alloc (.cells #[.int .i64 a.kind, .int .i64 a.who, .int .i64 a.dst, .int .i64 a.good, .int .i64 a.n, .string a.text] 24)) = W1 ∧ Blk W1 w.heap.size #[.int .i64 a.kind, .int .i64 a.who, .int .i64 a.dst, .int .i64 a.good, .int .i64 a.n, .string a.text] 24 ∧ Below w.heap.size w W1 := ⟨_, rfl, blk_new _ _ _ _ rfl, by go_grown⟩
  have hL := h.below B1
  have O1 : Off b w W1 := Off.of_below B1
  have har := around_calls a.kind 11 W1 (by omega) (by omega)
  rw [show ((rest a.kind (11 : Int).toNat : Nat) : Int) = 8 by rw [show (11 : Int).toNat = 11 from rfl, hk]; rfl] at har
  have e0 : W1.cell? ⟨w.heap.size, 0, none⟩ = some (.int .i64 a.kind) := X1.cell rfl
  have e1 : W1.cell? ⟨w.heap.size, 1, none⟩ = some (.int .i64 a.who) := X1.cell rfl
  have e2 : W1.cell? ⟨w.heap.size, 2, none⟩ = some (.int .i64 a.dst) := X1.cell rfl
  have e3 : W1.cell? ⟨w.heap.size, 3, none⟩ = some (.int .i64 a.good) := X1.cell rfl
  have e4 : W1.cell? ⟨w.heap.size, 4, none⟩ = some (.int .i64 a.n) := X1.cell rfl
  have e5 : W1.cell? ⟨w.heap.size, 5, none⟩ = some (.string a.text) := X1.cell rfl
  have hc := move_calls W1 hL a.who a.dst a.n r (by rw [← hr]; unfold act; rw [hk]; rfl)
  clear hr hk
  unfold Ac.val
  go_enter Tryd.func8, Tryd.ntmps8
  go_wp2_with fail
  refine har.mono ?_
  rintro e w1 ⟨rfl, rfl⟩
  go_wp2_with fail
  refine hc.mono ?_
  rintro e w2 ⟨rfl, L2, O2⟩
  go_wp2
  go_ret
  exact ⟨rfl, L2, O1.trans O2⟩

set_option maxRecDepth 100000 in
theorem done_9 (w : World) (h : Lg w p b g l) (a : Ac) (ht : a.text.size ≤ 281474976710656) (r : Int × List Kt) (hr : act g l a = r) (hk : rest a.kind 11 = 9) :
    Calls Tryd.prog 8 #[.pointer (some ⟨p, 0, none⟩), a.val] w fun e w' => e = .returned (.int .i64 r.1) ∧ Lg w' p b g r.2 ∧ Off b w w' := by
  obtain ⟨W1, hW1, X1, B1⟩ : ∃ W1, (w.alloc (.cells #[.int .i64 a.kind, .int .i64 a.who, .int .i64 a.dst, .int .i64 a.good, .int .i64 a.n, .string a.text] 24)) = W1 ∧ Blk W1 w.heap.size #[.int .i64 a.kind, .int .i64 a.who, .int .i64 a.dst, .int .i64 a.good, .int .i64 a.n, .string a.text] 24 ∧ Below w.heap.size w W1 := ⟨_, rfl, blk_new _ _ _ _ rfl, by go_grown⟩
  have hL := h.below B1
  have O1 : Off b w W1 := Off.of_below B1
  have har := around_calls a.kind 11 W1 (by omega) (by omega)
  rw [show ((rest a.kind (11 : Int).toNat : Nat) : Int) = 9 by rw [show (11 : Int).toNat = 11 from rfl, hk]; rfl] at har
  have e0 : W1.cell? ⟨w.heap.size, 0, none⟩ = some (.int .i64 a.kind) := X1.cell rfl
  have e1 : W1.cell? ⟨w.heap.size, 1, none⟩ = some (.int .i64 a.who) := X1.cell rfl
  have e2 : W1.cell? ⟨w.heap.size, 2, none⟩ = some (.int .i64 a.dst) := X1.cell rfl
  have e3 : W1.cell? ⟨w.heap.size, 3, none⟩ = some (.int .i64 a.good) := X1.cell rfl
  have e4 : W1.cell? ⟨w.heap.size, 4, none⟩ = some (.int .i64 a.n) := X1.cell rfl
  have e5 : W1.cell? ⟨w.heap.size, 5, none⟩ = some (.string a.text) := X1.cell rfl
  have hc := hand_calls W1 hL a.who a.dst a.good a.n r (by rw [← hr]; unfold act; rw [hk]; rfl)
  clear hr hk
  unfold Ac.val
  go_enter Tryd.func8, Tryd.ntmps8
  go_wp2_with fail
  refine har.mono ?_
  rintro e w1 ⟨rfl, rfl⟩
  go_wp2_with fail
  refine hc.mono ?_
  rintro e w2 ⟨rfl, L2, O2⟩
  go_wp2
  go_ret
  exact ⟨rfl, L2, O1.trans O2⟩

set_option maxRecDepth 100000 in
theorem done_10 (w : World) (h : Lg w p b g l) (a : Ac) (ht : a.text.size ≤ 281474976710656) (r : Int × List Kt) (hr : act g l a = r) (hk : rest a.kind 11 = 10) :
    Calls Tryd.prog 8 #[.pointer (some ⟨p, 0, none⟩), a.val] w fun e w' => e = .returned (.int .i64 r.1) ∧ Lg w' p b g r.2 ∧ Off b w w' := by
  obtain ⟨W1, hW1, X1, B1⟩ : ∃ W1, (w.alloc (.cells #[.int .i64 a.kind, .int .i64 a.who, .int .i64 a.dst, .int .i64 a.good, .int .i64 a.n, .string a.text] 24)) = W1 ∧ Blk W1 w.heap.size #[.int .i64 a.kind, .int .i64 a.who, .int .i64 a.dst, .int .i64 a.good, .int .i64 a.n, .string a.text] 24 ∧ Below w.heap.size w W1 := ⟨_, rfl, blk_new _ _ _ _ rfl, by go_grown⟩
  have hL := h.below B1
  have O1 : Off b w W1 := Off.of_below B1
  have har := around_calls a.kind 11 W1 (by omega) (by omega)
  rw [show ((rest a.kind (11 : Int).toNat : Nat) : Int) = 10 by rw [show (11 : Int).toNat = 11 from rfl, hk]; rfl] at har
  have e0 : W1.cell? ⟨w.heap.size, 0, none⟩ = some (.int .i64 a.kind) := X1.cell rfl
  have e1 : W1.cell? ⟨w.heap.size, 1, none⟩ = some (.int .i64 a.who) := X1.cell rfl
  have e2 : W1.cell? ⟨w.heap.size, 2, none⟩ = some (.int .i64 a.dst) := X1.cell rfl
  have e3 : W1.cell? ⟨w.heap.size, 3, none⟩ = some (.int .i64 a.good) := X1.cell rfl
  have e4 : W1.cell? ⟨w.heap.size, 4, none⟩ = some (.int .i64 a.n) := X1.cell rfl
  have e5 : W1.cell? ⟨w.heap.size, 5, none⟩ = some (.string a.text) := X1.cell rfl
  have hc := mark_calls W1 hL a.who a.n a.text ht r (by rw [← hr]; unfold act; rw [hk]; rfl)
  clear hr hk
  unfold Ac.val
  go_enter Tryd.func8, Tryd.ntmps8
  go_wp2_with fail
  refine har.mono ?_
  rintro e w1 ⟨rfl, rfl⟩
  go_wp2_with fail
  refine hc.mono ?_
  rintro e w2 ⟨rfl, L2, O2⟩
  go_wp2
  go_ret
  exact ⟨rfl, L2, O1.trans O2⟩

theorem done_calls (w : World) (h : Lg w p b g l) (a : Ac) (ht : a.text.size ≤ 281474976710656) (r : Int × List Kt) (hr : act g l a = r) :
    Calls Tryd.prog 8 #[.pointer (some ⟨p, 0, none⟩), a.val] w fun e w' => e = .returned (.int .i64 r.1) ∧ Lg w' p b g r.2 ∧ Off b w w' := by
  have hk := rest_lt a.kind 11 (by omega)
  have : rest a.kind 11 = 0 ∨ rest a.kind 11 = 1 ∨ rest a.kind 11 = 2 ∨ rest a.kind 11 = 3 ∨ rest a.kind 11 = 4 ∨ rest a.kind 11 = 5 ∨ rest a.kind 11 = 6 ∨ rest a.kind 11 = 7 ∨ rest a.kind 11 = 8 ∨ rest a.kind 11 = 9 ∨ rest a.kind 11 = 10 := by omega
  rcases this with h0 | h0 | h0 | h0 | h0 | h0 | h0 | h0 | h0 | h0 | h0
  · exact done_0 w h a ht r hr h0
  · exact done_1 w h a ht r hr h0
  · exact done_2 w h a ht r hr h0
  · exact done_3 w h a ht r hr h0
  · exact done_4 w h a ht r hr h0
  · exact done_5 w h a ht r hr h0
  · exact done_6 w h a ht r hr h0
  · exact done_7 w h a ht r hr h0
  · exact done_8 w h a ht r hr h0
  · exact done_9 w h a ht r hr h0
  · exact done_10 w h a ht r hr h0
end Go.Proofs.YtmcafgmjfgfaeaaDoor
