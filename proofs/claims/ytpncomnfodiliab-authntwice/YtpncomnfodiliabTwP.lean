/- Counting each signer once: lists that stand twice, or backwards, change nothing. No program is named here. -/
import Derived.Test.YtpncomnfodiliabAuQ
namespace Go.Proofs.Ytpncomnfodiliab
open Go.RowKit
set_option linter.unusedSimpArgs false
set_option linter.unusedVariables false

def okm (g : Sg → Bool) (below : Int) (m : Sg) : Prop := isSg m.frm = true ∧ m.frm < below ∧ g m = true
theorem qstep_sub (g : Sg → Bool) (below : Int) (acc : List Int) (m : Sg) : ∀ z ∈ acc, z ∈ qstep g below acc m := fun z hz => by
  unfold qstep; split
  · exact List.mem_append_left _ hz
  · exact hz
theorem fold_sub (g : Sg → Bool) (below : Int) (l : List Sg) : ∀ acc : List Int, ∀ z ∈ acc, z ∈ l.foldl (qstep g below) acc := by
  induction l with
  | nil => intro acc z hz; exact hz
  | cons m l ih => intro acc z hz; exact ih _ z (qstep_sub g below acc m z hz)
theorem qstep_has (g : Sg → Bool) (below : Int) (acc : List Int) (m : Sg) (h : okm g below m) : m.frm ∈ qstep g below acc m := by
  unfold qstep
  by_cases hm : m.frm ∈ acc
  · rw [if_neg (fun k => k.2.2.1 hm)]; exact hm
  · rw [if_pos ⟨h.1, h.2.1, hm, h.2.2⟩]; simp
theorem fold_has (g : Sg → Bool) (below : Int) (l : List Sg) : ∀ acc : List Int, ∀ m ∈ l, okm g below m → m.frm ∈ l.foldl (qstep g below) acc := by
  induction l with
  | nil => intro acc m hm; cases hm
  | cons m0 l ih =>
    intro acc m hm hk
    rcases List.mem_cons.1 hm with rfl | h
    · exact fold_sub g below l _ _ (qstep_has g below acc m hk)
    · exact ih _ m h hk
theorem fold_stay (g : Sg → Bool) (below : Int) (l : List Sg) : ∀ acc : List Int, (∀ m ∈ l, okm g below m → m.frm ∈ acc) → l.foldl (qstep g below) acc = acc := by
  induction l with
  | nil => intro acc _; rfl
  | cons m l ih =>
    intro acc h
    have e : qstep g below acc m = acc := by
      unfold qstep
      split
      · rename_i hk
        exact absurd (h m (by simp) ⟨hk.1, hk.2.1, hk.2.2.2⟩) hk.2.2.1
      · rfl
    show l.foldl (qstep g below) (qstep g below acc m) = acc
    rw [e]
    exact ih acc (fun m' hm => h m' (List.mem_cons_of_mem _ hm))
theorem qset_twice (g : Sg → Bool) (below : Int) (l : List Sg) : qset g below (l ++ l.reverse) = qset g below l := by
  unfold qset
  rw [List.foldl_append]
  exact fold_stay g below l.reverse _ (fun m hm hk => fold_has g below l [] m (List.mem_reverse.1 hm) hk)
theorem fold_inv (g : Sg → Bool) (below : Int) (l : List Sg) : ∀ acc : List Int, acc.Nodup → (∀ z ∈ acc, 0 ≤ z ∧ z < below) → (l.foldl (qstep g below) acc).Nodup ∧ (∀ z ∈ l.foldl (qstep g below) acc, 0 ≤ z ∧ z < below) ∧ (l.foldl (qstep g below) acc).length ≤ acc.length + l.length := by
  induction l with
  | nil => intro acc h1 h2; exact ⟨h1, h2, Nat.le_refl _⟩
  | cons m l ih =>
    intro acc h1 h2
    have k : (qstep g below acc m).Nodup ∧ (∀ z ∈ qstep g below acc m, 0 ≤ z ∧ z < below) ∧ (qstep g below acc m).length ≤ acc.length + 1 := by
      unfold qstep
      split
      · rename_i hk
        obtain ⟨a1, a2, a3, a4⟩ := hk
        unfold isSg at a1
        have a1 := of_decide_eq_true a1
        refine ⟨?_, ?_, by simp⟩
        · refine List.nodup_append.2 ⟨h1, by simp, fun x hx y hy => ?_⟩
          simp only [List.mem_singleton] at hy
          rintro rfl
          rw [hy] at hx
          exact a3 hx
        · intro z hz
          rcases List.mem_append.1 hz with h | h
          · exact h2 z h
          · simp only [List.mem_singleton] at h
            subst h; exact ⟨a1.1, a2⟩
      · exact ⟨h1, h2, by omega⟩
    obtain ⟨i1, i2, i3⟩ := ih _ k.1 k.2.1
    refine ⟨i1, i2, ?_⟩
    have := k.2.2
    simp only [List.length_cons, List.foldl_cons]
    omega
theorem nd_len : ∀ (n : Nat) (l : List Int), l.Nodup → (∀ z ∈ l, 0 ≤ z ∧ z < (n : Int)) → l.length ≤ n
  | 0, [], _, _ => Nat.le_refl _
  | 0, a :: t, _, h => by have := h a (by simp); omega
  | n + 1, l, hd, h => by
    by_cases hm : (n : Int) ∈ l
    · have := nd_len n (l.erase (n : Int)) (hd.erase _) (fun z hz => by
        have h1 := h z (List.mem_of_mem_erase hz)
        have h2 : z ≠ (n : Int) := ((List.Nodup.mem_erase_iff hd).1 hz).1
        omega)
      rw [List.length_erase_of_mem hm] at this
      omega
    · have := nd_len n l hd (fun z hz => by
        have h1 := h z hz
        have h2 : z ≠ (n : Int) := fun e => hm (e ▸ hz)
        omega)
      omega
theorem qset_bounds (g : Sg → Bool) (below : Int) (l : List Sg) : (qset g below l).length ≤ l.length ∧ ((qset g below l).length : Int) ≤ max 0 below := by
  obtain ⟨h1, h2, h3⟩ := fold_inv g below l [] (by simp) (by simp)
  refine ⟨by simpa [qset] using h3, ?_⟩
  have := nd_len below.toNat (qset g below l) h1 (fun z hz => by have := h2 z hz; omega)
  omega
end Go.Proofs.Ytpncomnfodiliab
