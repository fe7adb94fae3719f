/- Numbers as a book's orders: pure. -/
import Derived.Test.YtlhfdgeknpmdfaaCaBy
import Derived.Test.YtlhfdgeknpmdfaaCaU
import Derived.Test.YtlhfdgeknpmdfaaCaI
import Derived.Test.YtlhfdgeknpmdfaaRowH
namespace Go.Proofs.Ytlhfdgeknpmdfaa
open Go.RowKit
set_option linter.unusedSimpArgs false
set_option linter.unusedVariables false

/-- The order of six numbers. -/
def odI (a b c d e f : Int) : Od := (a, b, d, e, f, c == 0)
def lastP (l : List Od) : Int := match l.getLast? with | some o => o.pl | none => 0
def tkB (nx : Int) (l : List Od) (o : Od) : Bool := mayB o && decide (fnd l o.id < 0) && decide (lastP l < o.pl) && decide (o.pl < nx)

def nAt (ms : List Int) (i : Nat) : Int := ms.getD i 0
def oAt (ms : List Int) (j : Nat) : Od := odI (nAt ms (2 + 6 * j)) (nAt ms (3 + 6 * j)) (nAt ms (4 + 6 * j)) (nAt ms (5 + 6 * j)) (nAt ms (6 + 6 * j)) (nAt ms (7 + 6 * j))
def rdK (ms : List Int) (k : Nat) : List Od := (List.range k).map (oAt ms)
theorem rdK_len (ms : List Int) (k : Nat) : (rdK ms k).length = k := by simp [rdK]
theorem rdK_succ (ms : List Int) (k : Nat) : rdK ms (k + 1) = rdK ms k ++ [oAt ms k] := by simp [rdK, List.range_succ]
def okP (ms : List Int) (j : Nat) : Bool := (nAt ms (4 + 6 * j) == sdN (oAt ms j)) && tkB (nAt ms 0) (rdK ms j) (oAt ms j)

theorem lastP_snoc (l : List Od) (o : Od) : lastP (l ++ [o]) = o.pl := by unfold lastP; simp
/-- What is true of the orders that were taken. -/
structure RdI (nx : Int) (l : List Od) : Prop where
  may : ∀ o ∈ l, mayB o = true
  ids : l.Pairwise fun a b => a.id ≠ b.id
  pls : l.Pairwise fun a b => a.pl < b.pl
  pl : ∀ o ∈ l, 1 ≤ o.pl ∧ o.pl < nx ∧ o.pl ≤ lastP l
theorem fnd_none {l : List Od} {x : Int} (h : fnd l x < 0) : ∀ q ∈ l, q.id ≠ x := by
  rcases fnd_cases l x with ⟨_, h2⟩ | ⟨i, o, h1, _⟩
  · exact h2
  · rw [h1] at h; omega
theorem fnd_some {l : List Od} {x : Int} (h : ¬ fnd l x < 0) : ∃ q ∈ l, q.id = x := by
  rcases fnd_cases l x with ⟨h1, _⟩ | ⟨i, o, _, h2, h3, _⟩
  · rw [h1] at h; omega
  · exact ⟨o, List.mem_of_getElem? h2, h3⟩
theorem tk_parts {nx : Int} {l : List Od} {o : Od} (h : tkB nx l o = true) : mayB o = true ∧ fnd l o.id < 0 ∧ lastP l < o.pl ∧ o.pl < nx := by
  unfold tkB at h
  simp only [Bool.and_eq_true, decide_eq_true_eq] at h
  exact ⟨h.1.1.1, h.1.1.2, h.1.2, h.2⟩
theorem RdI.nil (nx : Int) : RdI nx [] := ⟨fun o h => (by cases h), List.Pairwise.nil, List.Pairwise.nil, fun o h => (by cases h)⟩
theorem RdI.last {nx : Int} {l : List Od} (h : RdI nx l) : 0 ≤ lastP l := by
  unfold lastP
  cases hq : l.getLast? with
  | none => exact Int.le_refl _
  | some o =>
    have := (h.pl o (List.mem_of_getLast? hq)).1
    show 0 ≤ o.pl
    omega
theorem RdI.snoc {nx : Int} {l : List Od} (h : RdI nx l) {o : Od} (ht : tkB nx l o = true) : RdI nx (l ++ [o]) := by
  obtain ⟨t1, t2, t3, t4⟩ := tk_parts ht
  have hl := h.last
  refine ⟨fun q hq => ?_, ?_, ?_, fun q hq => ?_⟩
  · rcases List.mem_append.1 hq with hq | hq
    · exact h.may q hq
    · rw [List.mem_singleton.1 hq]; exact t1
  · rw [List.pairwise_append]
    refine ⟨h.ids, List.pairwise_singleton _ _, fun a ha b hb => ?_⟩
    rw [List.mem_singleton.1 hb]
    exact fnd_none t2 a ha
  · rw [List.pairwise_append]
    refine ⟨h.pls, List.pairwise_singleton _ _, fun a ha b hb => ?_⟩
    rw [List.mem_singleton.1 hb]
    have := (h.pl a ha).2.2
    omega
  · rw [lastP_snoc]
    rcases List.mem_append.1 hq with hq | hq
    · have := h.pl q hq
      omega
    · rw [List.mem_singleton.1 hq]; omega
theorem rdI_of {ms : List Int} : ∀ k, (∀ j, j < k → okP ms j = true) → RdI (nAt ms 0) (rdK ms k)
  | 0, _ => RdI.nil _
  | k + 1, h => by
    rw [rdK_succ]
    refine (rdI_of k (fun j hj => h j (by omega))).snoc ?_
    have := h k (by omega)
    unfold okP at this
    simp only [Bool.and_eq_true] at this
    exact this.2
theorem binv_of {ms : List Int} {k : Nat} (h : ∀ j, j < k → okP ms j = true) (h1 : 0 < nAt ms 0) (h2 : nAt ms 0 ≤ 9007199254740992) (hk : k ≤ 64) : BInv ⟨nAt ms 0, rdK ms k⟩ := by
  have hR := rdI_of k h
  exact ⟨by show 1 ≤ nAt ms 0; omega, h2, by show (rdK ms k).length ≤ 64; rw [rdK_len]; exact hk, hR.may, hR.ids, hR.pls, fun o ho => ⟨(hR.pl o ho).1, (hR.pl o ho).2.1⟩⟩
theorem nAt_get {ms : List Int} {i : Nat} (h : i < ms.length) : ms[i]? = some (nAt ms i) := by
  unfold nAt; rw [List.getD_eq_getElem?_getD, List.getElem?_eq_getElem h]; rfl
theorem take_one {ms : List Int} {i : Nat} (h : i < ms.length) : ms.take (i + 1) = ms.take i ++ [nAt ms i] := by
  have := nAt_get h
  rw [List.getElem?_eq_getElem h] at this
  rw [List.take_succ_eq_append_getElem h, Option.some.inj this]
theorem back_of {ms : List Int} : ∀ k, 2 + 6 * k ≤ ms.length → (∀ j, j < k → okP ms j = true) → [nAt ms 0, nAt ms 1] ++ (rdK ms k).flatMap odN = ms.take (2 + 6 * k)
  | 0, h, _ => by
    rw [show 2 + 6 * 0 = 0 + 1 + 1 by rfl, take_one (by omega), take_one (by omega)]
    rfl
  | k + 1, h, hk => by
    have ih := back_of k (by omega) (fun j hj => hk j (by omega))
    have hs : nAt ms (4 + 6 * k) = sdN (oAt ms k) := by
      have := hk k (by omega)
      unfold okP at this
      simp only [Bool.and_eq_true, beq_iff_eq] at this
      exact this.1
    rw [rdK_succ, List.flatMap_append, ← List.append_assoc, ih, show 2 + 6 * (k + 1) = 2 + 6 * k + 1 + 1 + 1 + 1 + 1 + 1 by omega, take_one (by omega), take_one (by omega), take_one (by omega), take_one (by omega), take_one (by omega), take_one (by omega)]
    simp only [List.append_assoc, List.flatMap_cons, List.flatMap_nil, List.append_nil]
    congr 1
    unfold odN
    rw [← hs]
    unfold oAt odI Od.id Od.own Od.pr Od.am Od.pl
    rw [show 3 + 6 * k = 2 + 6 * k + 1 by omega, show 4 + 6 * k = 2 + 6 * k + 1 + 1 by omega, show 5 + 6 * k = 2 + 6 * k + 1 + 1 + 1 by omega, show 6 + 6 * k = 2 + 6 * k + 1 + 1 + 1 + 1 by omega, show 7 + 6 * k = 2 + 6 * k + 1 + 1 + 1 + 1 + 1 by omega]
    rfl
end Go.Proofs.Ytlhfdgeknpmdfaa
