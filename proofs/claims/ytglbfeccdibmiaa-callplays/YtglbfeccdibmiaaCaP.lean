/- Orders, fills and books as plain data: what each call makes of them. No program is named here. -/
import Derived.Test.YtglbfeccdibmiaaMem
import Derived.Test.YtglbfeccdibmiaaCaSo
namespace Go.Proofs.Ytglbfeccdibmiaa
open Go.RowKit Go.Sort
set_option linter.unusedSimpArgs false
set_option linter.unusedVariables false

/-- An order: Id, owner, price, amount, place, whether it buys. -/
abbrev Od : Type := Int × Int × Int × Int × Int × Bool
def Od.id (o : Od) : Int := o.1
def Od.own (o : Od) : Int := o.2.1
def Od.pr (o : Od) : Int := o.2.2.1
def Od.am (o : Od) : Int := o.2.2.2.1
def Od.pl (o : Od) : Int := o.2.2.2.2.1
def Od.by (o : Od) : Bool := o.2.2.2.2.2
def Od.setAm (o : Od) (n : Int) : Od := (o.1, o.2.1, o.2.2.1, n, o.2.2.2.2.1, o.2.2.2.2.2)
def oC (o : Od) : List Value := [.int .i64 o.id, .int .i64 o.own, .int .i64 o.pr, .int .i64 o.am, .int .i64 o.pl, .bool o.by]
theorem oC_len (o : Od) : (oC o).length = 6 := rfl
theorem oC_one (o : Od) : ∀ v ∈ oC o, v.oneCell' = true := by intro v hv; simp only [oC, List.mem_cons, List.not_mem_nil, or_false] at hv; rcases hv with h | h | h | h | h | h <;> (rw [h]; rfl)
def odL (l : List Od) : List Value := l.flatMap oC
theorem odL_len (l : List Od) : (odL l).length = l.length * 6 := by
  unfold odL
  induction l with
  | nil => rfl
  | cons k l ih => rw [List.flatMap_cons, List.length_append, ih, List.length_cons, oC_len]; omega
theorem odL_app (a b : List Od) : odL (a ++ b) = odL a ++ odL b := by simp [odL]
theorem odL_cons (a : Od) (b : List Od) : odL (a :: b) = oC a ++ odL b := by simp [odL]
theorem odL_nil : odL [] = [] := rfl
theorem odL_one (l : List Od) : ∀ v ∈ odL l, v.oneCell' = true := by
  intro v hv
  unfold odL at hv
  rw [List.mem_flatMap] at hv
  obtain ⟨o, _, h⟩ := hv
  exact oC_one o v h
theorem odL_get : ∀ (l : List Od) (i j : Nat) (o : Od) (v : Value), l[i]? = some o → (oC o)[j]? = some v → (odL l)[i * 6 + j]? = some v
  | k :: l, 0, j, o, v, h0, h => by
    have h0 : k = o := by simpa using h0
    subst h0
    have hj : j < (oC k).length := (List.getElem?_eq_some_iff.1 h).1
    rw [odL_cons, Nat.zero_mul, Nat.zero_add, List.getElem?_append_left hj]
    exact h
  | k :: l, i + 1, j, o, v, h0, h => by
    have e2 : (i + 1) * 6 + j - 6 = i * 6 + j := by omega
    rw [odL_cons, List.getElem?_append_right (by rw [oC_len]; omega), oC_len, e2]
    exact odL_get l i j o v (by simpa using h0) h
/-- May an order be? -/
def mayB (o : Od) : Bool := decide (0 ≤ o.id ∧ o.id ≤ 9007199254740992) && decide (0 ≤ o.own ∧ o.own ≤ 15) && decide (0 ≤ o.pr ∧ o.pr ≤ 1099511627776) && decide (1 ≤ o.am ∧ o.am ≤ 1048576)
def bAt (p : Int) (o : Od) : Bool := o.by && decide (p ≤ o.pr)
def sAt (p : Int) (o : Od) : Bool := !o.by && decide (o.pr ≤ p)
def jdg (l : List Od) : List Od := if 64 < l.length then [] else l.filter mayB
def amt : List Od → Int
  | [] => 0
  | o :: l => o.am + amt l
theorem amt_app : ∀ a b : List Od, amt (a ++ b) = amt a + amt b
  | [], b => by simp [amt]
  | o :: a, b => by simp [amt, amt_app a b]; omega
def trd (l : List Od) (p : Int) : Int := min (amt (l.filter (bAt p))) (amt (l.filter (sAt p)))
def crS (l : List Od) (s : Int × Int) (o : Od) : Int × Int := if s.2 < trd l o.pr ∨ (trd l o.pr = s.2 ∧ o.pr < s.1) then (o.pr, trd l o.pr) else s
def crs (l : List Od) : Int × Int := (jdg l).foldl (crS (jdg l)) (0, 0)
def cmI (x y : Int) : Int := if x < y then -1 else if y < x then 1 else 0
def cOr (x y : Int) : Int := if x = 0 then y else x
def cfB (a b : Od) : Int := cOr (cmI b.pr a.pr) (cmI a.pl b.pl)
def cfS (a b : Od) : Int := cOr (cmI a.pr b.pr) (cmI a.pl b.pl)
/-- A fill: Id, owner, amount. -/
abbrev Fi : Type := Int × Int × Int
def fC (f : Fi) : List Value := [.int .i64 f.1, .int .i64 f.2.1, .int .i64 f.2.2]
def fiL (l : List Fi) : List Value := l.flatMap fC
theorem fiL_app (a b : List Fi) : fiL (a ++ b) = fiL a ++ fiL b := by simp [fiL]
theorem fiL_cons (a : Fi) (b : List Fi) : fiL (a :: b) = fC a ++ fiL b := by simp [fiL]
theorem fiL_len (l : List Fi) : (fiL l).length = l.length * 3 := by
  induction l with
  | nil => rfl
  | cons k l ih => rw [fiL_cons, List.length_append, ih, List.length_cons]; simp [fC]; omega
theorem fiL_one (l : List Fi) : ∀ v ∈ fiL l, v.oneCell' = true := by
  intro v hv
  unfold fiL at hv
  rw [List.mem_flatMap] at hv
  obtain ⟨o, _, h⟩ := hv
  simp only [fC, List.mem_cons, List.not_mem_nil, or_false] at h
  rcases h with h | h | h <;> (rw [h]; rfl)
theorem fiL_get : ∀ (l : List Fi) (i j : Nat) (o : Fi) (v : Value), l[i]? = some o → (fC o)[j]? = some v → (fiL l)[i * 3 + j]? = some v
  | k :: l, 0, j, o, v, h0, h => by
    have h0 : k = o := by simpa using h0
    subst h0
    have hj : j < (fC k).length := (List.getElem?_eq_some_iff.1 h).1
    rw [fiL_cons, Nat.zero_mul, Nat.zero_add, List.getElem?_append_left hj]
    exact h
  | k :: l, i + 1, j, o, v, h0, h => by
    have hl : (fC k).length = 3 := rfl
    have e2 : (i + 1) * 3 + j - 3 = i * 3 + j := by omega
    rw [fiL_cons, List.getElem?_append_right (by rw [hl]; omega), hl, e2]
    exact fiL_get l i j o v (by simpa using h0) h
def fll : List Od → Int → List Fi
  | [], _ => []
  | o :: l, n => if min o.am n ≤ 0 then [] else (o.id, o.own, min o.am n) :: fll l (n - min o.am n)
def fills (l : List Od) (p n : Int) : List Fi := fll (stab (fun a b => decide (cfB a b < 0)) ((jdg l).filter (bAt p))) n ++ fll (stab (fun a b => decide (cfS a b < 0)) ((jdg l).filter (sAt p))) n
theorem cm_lt (x y : Int) : cmI x y < 0 ↔ x < y := by unfold cmI; split <;> (try split) <;> omega
theorem cm_eq (x y : Int) : cmI x y = 0 ↔ x = y := by unfold cmI; split <;> (try split) <;> omega
theorem cfB_lt (a b : Od) : decide (cfB a b < 0) = decide (b.pr < a.pr ∨ (a.pr = b.pr ∧ a.pl < b.pl)) := by
  rw [decide_eq_decide]
  unfold cfB cOr
  have h1 := cm_lt b.pr a.pr
  have h2 := cm_eq b.pr a.pr
  have h3 := cm_lt a.pl b.pl
  split
  · rename_i h; rw [h2] at h; rw [h3]; omega
  · rename_i h; rw [h2] at h; rw [h1]; omega
theorem cfS_lt (a b : Od) : decide (cfS a b < 0) = decide (a.pr < b.pr ∨ (a.pr = b.pr ∧ a.pl < b.pl)) := by
  rw [decide_eq_decide]
  unfold cfS cOr
  have h1 := cm_lt a.pr b.pr
  have h2 := cm_eq a.pr b.pr
  have h3 := cm_lt a.pl b.pl
  split
  · rename_i h; rw [h2] at h; rw [h3]; omega
  · rename_i h; rw [h2] at h; rw [h1]; omega
theorem swoB : SWO (fun a b : Od => decide (cfB a b < 0)) := {
  irrefl := fun x => by simp only [cfB_lt]; simp
  trans := fun x y z h1 h2 => by simp only [cfB_lt, decide_eq_true_eq] at *; omega
  ntrans := fun x y z h1 h2 => by simp only [cfB_lt, decide_eq_false_iff_not] at *; omega }
theorem swoS : SWO (fun a b : Od => decide (cfS a b < 0)) := {
  irrefl := fun x => by simp only [cfS_lt]; simp
  trans := fun x y z h1 h2 => by simp only [cfS_lt, decide_eq_true_eq] at *; omega
  ntrans := fun x y z h1 h2 => by simp only [cfS_lt, decide_eq_false_iff_not] at *; omega }
end Go.Proofs.Ytglbfeccdibmiaa
