/- begun: an auction behind calls; awake: the chapter's example. -/
import Derived.Test.YteinfckkpkbnlaaCkB
import Derived.Test.YteinfckkpkbnlaaCkT
import Derived.Test.YteinfckkpkbnlaaCkX
import Derived.Deep.RegionHeldLaw
import Derived.Deep.RegionHeld3
namespace Go.Proofs.Yteinfckkpkbnlaa
open Go.RowKit
set_option linter.unusedSimpArgs false
set_option linter.unusedVariables false
variable {p b : Nat} {a : Au}

theorem keepCell {w w' : World} {k o : Nat} {v : Value} (hb : Below k w w') {c : Nat} (h : w.cell? ⟨c, o, none⟩ = some v) (hc : c < k) : w'.cell? ⟨c, o, none⟩ = some v := (hb.cell (p := ⟨c, o, none⟩) hc).trans h
theorem keepOfc {w w' : World} {p b c o : Nat} {v : Value} (ho : Ofc p b w w') (h : w.cell? ⟨c, o, none⟩ = some v) (hc : c < w.heap.size) (h1 : c ≠ p) (h2 : c ≠ b) : w'.cell? ⟨c, o, none⟩ = some v :=
  (World.cell?_of_block (w := w) (a := ⟨c, o, none⟩) (ho.block c hc h1 h2)).trans h
/-- What a call makes of an auction. -/
def Au.act (a : Au) (x : Ac) : Au := if arn x.kind 3 = 2 then a.next.2.2 else (a.bid x.who x.n).2
def runs (a : Au) (ls : List Ac) : Au := ls.foldl Au.act a
theorem runs_take (a : Au) (ls : List Ac) (k : Nat) (h : k < ls.length) : runs a (ls.take (k + 1)) = (runs a (ls.take k)).act ls[k] := by
  unfold runs
  rw [List.take_succ_eq_append_getElem h, List.foldl_append]; rfl
def ex0 : Au := Au.new 5 10 2 2
def ex1 : Au := (ex0.bid 0 4).2
def ex2 : Au := (ex1.bid 1 3).2
def ex3 : Au := ex2.next.2.2
def ex4 : Au := (ex3.bid 0 1).2
def ex5 : Au := ex4.next.2.2
set_option maxRecDepth 100000 in
set_option maxHeartbeats 1000000 in
theorem awake_calls (w : World) : Calls Try.prog 6 #[] w fun e w' => e = .returned (.bool true) ∧ Below w.heap.size w w' := by
  have HN : Hid _ := new_ok 5 10 2 2 w ⟨⟨by omega, by omega⟩, ⟨by omega, by omega⟩, ⟨by omega, by omega⟩, ⟨by omega, by omega⟩⟩
  go_enter Try.func6, Try.ntmps6
  go_wp2_with fail
  refine Calls.mono HN.out ?_
  rintro e w1 ⟨p, b, rfl, L1, b1, hp, hb⟩
  have L1' : Lc w1 p b ex0 := L1
  clear L1 HN
  have HP : Hid _ := bid_calls w1 L1' 0 4 (0, ex1) (by kernel_rfl)
  go_wp2_with fail
  refine Calls.mono HP.out ?_
  rintro e w2 ⟨rfl, L2, o2⟩
  have L2' : Lc w2 p b ex1 := L2
  clear L2 HP
  have HP : Hid _ := bid_calls w2 L2' 1 3 (0, ex2) (by kernel_rfl)
  go_wp2_with fail
  refine Calls.mono HP.out ?_
  rintro e w3 ⟨rfl, L3, o3⟩
  have L3' : Lc w3 p b ex2 := L3
  clear L3 HP
  have HP : Hid _ := next_calls w3 L3' (false, 0, ex3) (by kernel_rfl)
  go_wp2_with fail
  refine Calls.mono HP.out ?_
  rintro e w4 ⟨rfl, L4, o4⟩
  have L4' : Lc w4 p b ex3 := L4
  clear L4 HP
  have HP := price_calls w4 L4'
  rw [show ex3.price = 12 by kernel_rfl] at HP
  go_wp2_with fail
  refine HP.mono ?_
  rintro e w5 ⟨rfl, b5⟩
  clear HP
  have L5 := L4'.below b5
  have HP : Hid _ := bid_calls w5 L5 0 5 (71, ex3) (by kernel_rfl)
  go_wp2_with fail
  refine Calls.mono HP.out ?_
  rintro e w6 ⟨rfl, L6, o6⟩
  have L6' : Lc w6 p b ex3 := L6
  clear L6 HP
  have HP : Hid _ := bid_calls w6 L6' 0 1 (0, ex4) (by kernel_rfl)
  go_wp2_with fail
  refine Calls.mono HP.out ?_
  rintro e w7 ⟨rfl, L7, o7⟩
  have L7' : Lc w7 p b ex4 := L7
  clear L7 HP
  have HP : Hid _ := next_calls w7 L7' (true, 0, ex5) (by kernel_rfl)
  go_wp2_with fail
  refine Calls.mono HP.out ?_
  rintro e w8 ⟨rfl, L8, o8⟩
  have L8' : Lc w8 p b ex5 := L8
  clear L8 HP
  have HP := sale_over w8 L8' (by show (1 : Int) ≠ 0; omega)
  rw [show ex5.saleP = 10 by kernel_rfl, show ex5.saleL = [2, 3] by kernel_rfl, show ex5.ds.length = 2 by kernel_rfl] at HP
  go_wp2_with fail
  refine HP.mono ?_
  rintro e w9 ⟨rfl, X9, b9⟩
  have c0 : w9.cell? ⟨w8.heap.size, 0, none⟩ = some (.int .i64 2) := X9.cell rfl
  have c1 : w9.cell? ⟨w8.heap.size, 1, none⟩ = some (.int .i64 3) := X9.cell rfl
  have hB : Hid (Below w.heap.size w w9) := by
    show Below _ _ _
    have h4 := ((o2.trans o3).trans o4).below hp hb b1 b1.size
    have z4 := h4.size
    have h5 := h4.trans (b5.mono z4)
    have h8 := ((o6.trans o7).trans o8).below hp hb h5 h5.size
    exact h8.trans (b9.mono h8.size)
  clear b9 o2 o3 o4 o6 o7 o8 X9 HP
  go_wp2
  go_ret
  exact ⟨rfl, hB.out⟩
end Go.Proofs.Yteinfckkpkbnlaa
