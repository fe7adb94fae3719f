/- Floats in their order, as lists: inserted one by one; there is just one such list. No function of the program is walked here. -/
import Derived.Test.YtoblekdjncikaaaQtOr
import Derived.Test.YtoblekdjncikaaaQtMd
namespace Go.Proofs.Ytoblekdjncikaaa
open Go.RowKit
set_option linter.unusedSimpArgs false
set_option linter.unusedVariables false

def stepI (x : Nat) (acc : List Nat × Bool) (y : Nat) : List Nat × Bool := if !acc.2 && lessR x y then (acc.1 ++ [x] ++ [y], true) else (acc.1 ++ [y], acc.2)
def finI (x : Nat) (r : List Nat × Bool) : List Nat := if r.2 then r.1 else r.1 ++ [x]
def insR (x : Nat) (l : List Nat) : List Nat := finI x (l.foldl (stepI x) ([], false))
def insP (x : Nat) : List Nat → List Nat
  | [] => [x]
  | y :: l => if lessR x y then x :: y :: l else y :: insP x l
theorem fold_done (x : Nat) (l acc : List Nat) : l.foldl (stepI x) (acc, true) = (acc ++ l, true) := by
  induction l generalizing acc with
  | nil => simp
  | cons y l ih => rw [List.foldl_cons, show stepI x (acc, true) y = (acc ++ [y], true) from rfl, ih]; simp
theorem fold_ins (x : Nat) (l acc : List Nat) : finI x (l.foldl (stepI x) (acc, false)) = acc ++ insP x l := by
  induction l generalizing acc with
  | nil => rfl
  | cons y l ih =>
    rw [List.foldl_cons]
    unfold insP
    cases h : lessR x y
    · rw [show stepI x (acc, false) y = (acc ++ [y], false) by simp [stepI, h], ih]; simp
    · rw [show stepI x (acc, false) y = (acc ++ [x] ++ [y], true) by simp [stepI, h], fold_done]; simp [finI]
theorem insR_eq (x : Nat) (l : List Nat) : insR x l = insP x l := by unfold insR; rw [fold_ins]; simp
def srtR (l : List Nat) : List Nat := l.foldl (fun out x => insR (toldR x) out) []

def Srt (l : List Nat) : Prop := l.Pairwise fun a b => rankR a ≤ rankR b
theorem insP_perm (x : Nat) (l : List Nat) : (insP x l).Perm (x :: l) := by
  induction l with
  | nil => exact List.Perm.refl _
  | cons y l ih =>
    unfold insP
    split
    · exact List.Perm.refl _
    · exact (List.Perm.cons y ih).trans (List.Perm.swap x y l)
theorem insP_srt (x : Nat) (l : List Nat) (h : Srt l) : Srt (insP x l) := by
  induction l with
  | nil => unfold insP Srt; simp
  | cons y l ih =>
    have h1 := List.pairwise_cons.1 h
    unfold insP
    split
    · rename_i hl
      have hl' : rankR x < rankR y := by simpa [lessR] using hl
      refine List.pairwise_cons.2 ⟨fun z hz => ?_, h⟩
      rcases List.mem_cons.1 hz with rfl | hz
      · omega
      · have := h1.1 z hz; omega
    · rename_i hl
      have hl' : rankR y ≤ rankR x := by simpa [lessR] using hl
      refine List.pairwise_cons.2 ⟨fun z hz => ?_, ih h1.2⟩
      rcases List.mem_cons.1 ((insP_perm x l).mem_iff.1 hz) with rfl | hz
      · exact hl'
      · exact h1.1 z hz
theorem srt_fold (l acc : List Nat) (h : Srt acc) : Srt (l.foldl (fun out x => insR (toldR x) out) acc) ∧ (l.foldl (fun out x => insR (toldR x) out) acc).Perm (l.map toldR ++ acc) := by
  induction l generalizing acc with
  | nil => exact ⟨h, List.Perm.refl _⟩
  | cons a l ih =>
    rw [List.foldl_cons, insR_eq]
    obtain ⟨h1, h2⟩ := ih _ (insP_srt (toldR a) acc h)
    refine ⟨h1, h2.trans ?_⟩
    rw [List.map_cons, List.cons_append]
    exact (List.Perm.append_left _ (insP_perm (toldR a) acc)).trans List.perm_middle
theorem srtR_srt (l : List Nat) : Srt (srtR l) := (srt_fold l [] List.Pairwise.nil).1
theorem srtR_perm (l : List Nat) : (srtR l).Perm (l.map toldR) := by have := (srt_fold l [] List.Pairwise.nil).2; rwa [List.append_nil] at this

/-- Floats as they are told. -/
def Tld (x : Nat) : Prop := x < 18446744073709551616 ∧ (fnan x = true → x = 9221120237041090561)
theorem tld_told {x : Nat} (h : x < 18446744073709551616) : Tld (toldR x) := by
  refine ⟨toldR_lt h, ?_⟩
  unfold toldR
  cases hn : fnan x <;> simp [hn]
theorem told_tld {x : Nat} (h : Tld x) : toldR x = x := by
  unfold toldR
  cases hn : fnan x
  · rfl
  · rw [h.2 hn]; rfl
theorem rank_inj {a b : Nat} (ha : Tld a) (hb : Tld b) (h : rankR a = rankR b) : a = b := by
  have := rank_same ha.1 hb.1
  rw [h, decide_eq_true rfl, Bool.or_eq_true, Bool.and_eq_true, decide_eq_true_eq] at this
  rcases this with h | ⟨h1, h2⟩
  · exact h
  · rw [ha.2 h1, hb.2 h2]
theorem srt_one (l1 : List Nat) : ∀ l2 : List Nat, l1.Perm l2 → Srt l1 → Srt l2 → (∀ x ∈ l1, Tld x) → l1 = l2 := by
  induction l1 with
  | nil => intro l2 hp _ _ _; exact (List.Perm.nil_eq hp)
  | cons a t1 ih =>
    intro l2 hp h1 h2 hT
    cases l2 with
    | nil => exact absurd hp.length_eq (by simp)
    | cons b t2 =>
      have hT2 : ∀ x ∈ b :: t2, Tld x := fun x hx => hT x (hp.mem_iff.2 hx)
      have hab : rankR b ≤ rankR a := by
        rcases List.mem_cons.1 (hp.mem_iff.1 (List.mem_cons_self ..)) with e | hm
        · rw [e]; exact Nat.le_refl _
        · exact (List.pairwise_cons.1 h2).1 a hm
      have hba : rankR a ≤ rankR b := by
        rcases List.mem_cons.1 (hp.mem_iff.2 (List.mem_cons_self ..)) with e | hm
        · rw [e]; exact Nat.le_refl _
        · exact (List.pairwise_cons.1 h1).1 b hm
      have e : a = b := rank_inj (hT a (List.mem_cons_self ..)) (hT2 b (List.mem_cons_self ..)) (by omega)
      subst e
      rw [ih t2 (List.Perm.cons_inv hp) (List.pairwise_cons.1 h1).2 (List.pairwise_cons.1 h2).2 (fun x hx => hT x (List.mem_cons_of_mem _ hx))]
theorem srtR_tld {l : List Nat} (h : ∀ x ∈ l, x < 18446744073709551616) : ∀ x ∈ srtR l, Tld x := by
  intro x hx
  have := (srtR_perm l).mem_iff.1 hx
  obtain ⟨y, hy, rfl⟩ := List.mem_map.1 this
  exact tld_told (h y hy)
theorem srtR_length (l : List Nat) : (srtR l).length = l.length := by rw [(srtR_perm l).length_eq, List.length_map]
theorem srtR_snoc (l : List Nat) (x : Nat) : srtR (l ++ [x]) = insR (toldR x) (srtR l) := by unfold srtR; rw [List.foldl_append]; rfl
end Go.Proofs.Ytoblekdjncikaaa
