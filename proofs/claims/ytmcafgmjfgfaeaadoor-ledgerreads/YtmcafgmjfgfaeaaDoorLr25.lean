/- A client's own value tells what is kept of it: pure. -/
import Derived.Test.YtmcafgmjfgfaeaaDoorLr24
namespace Go.Proofs.YtmcafgmjfgfaeaaDoor
open Go.RowKit
set_option linter.unusedSimpArgs false
set_option linter.unusedVariables false

/-- The numbers of an account, in the order in which they are laid. -/
def nums (k : Kt) (g : Nat) : List Int := k.n 10 :: k.n 0 :: k.n 1 :: ((List.range g).map (fun i => k.n (2 + i)) ++ (List.range g).map (fun i => k.n (6 + i)))
theorem nums_len (k : Kt) (g : Nat) : (nums k g).length = 3 + 2 * g := by simp [nums]; omega
theorem valB_nums (k : Kt) (g : Nat) : valB k g = encs (nums k g) ++ (enc k.reply.size ++ k.reply.data.toList) := by
  unfold valB nums encs
  simp
theorem nums_fit {k : Kt} {g : Nat} (hf : k.fits) (hg : g ≤ 4) : ∀ x ∈ nums k g, 0 ≤ x ∧ x ≤ 1099511627776 := by
  intro x hx
  unfold nums at hx
  simp only [List.mem_cons, List.mem_append, List.mem_map, List.mem_range] at hx
  rcases hx with rfl | rfl | rfl | ⟨i, hi, rfl⟩ | ⟨i, hi, rfl⟩
  · exact hf.num 10 (by omega)
  · exact hf.num 0 (by omega)
  · exact hf.num 1 (by omega)
  · exact hf.num (2 + i) (by omega)
  · exact hf.num (6 + i) (by omega)
theorem nums_good {k : Kt} {g i : Nat} (hi : i < g) : (nums k g).getD (3 + i) 0 = k.n (2 + i) := by
  unfold nums
  rw [show 3 + i = i + 1 + 1 + 1 by omega, List.getD_cons_succ, List.getD_cons_succ, List.getD_cons_succ, List.getD_eq_getElem?_getD, List.getElem?_append_left (by simpa using hi)]
  simp [hi]
theorem nums_lock {k : Kt} {g i : Nat} (hi : i < g) : (nums k g).getD (3 + g + i) 0 = k.n (6 + i) := by
  unfold nums
  rw [show 3 + g + i = g + i + 1 + 1 + 1 by omega, List.getD_cons_succ, List.getD_cons_succ, List.getD_cons_succ, List.getD_eq_getElem?_getD, List.getElem?_append_right (by simp)]
  simp [hi]
theorem kOf_nums {k : Kt} {g : Nat} (hg : g ≤ 4) (hn : ∀ i, g ≤ i → i < 4 → k.n (2 + i) = 0 ∧ k.n (6 + i) = 0) : ∀ f, f < 11 → (kOf g (nums k g) k.reply).n f = k.n f := by
  intro f hf
  show (match idx g f with | some i => (nums k g).getD i 0 | none => 0) = k.n f
  unfold idx
  by_cases h10 : f = 10
  · subst h10; rfl
  rw [if_neg h10]
  by_cases h0 : f = 0
  · subst h0; rfl
  rw [if_neg h0]
  by_cases h1 : f = 1
  · subst h1; rfl
  rw [if_neg h1]
  by_cases h6 : f < 6
  · rw [if_pos h6]
    by_cases hfg : f - 2 < g
    · rw [if_pos hfg]
      have := nums_good (k := k) hfg
      rw [show 3 + (f - 2) = f + 1 by omega, show 2 + (f - 2) = f by omega] at this
      exact this
    · rw [if_neg hfg]
      have := (hn (f - 2) (by omega) (by omega)).1
      rw [show 2 + (f - 2) = f by omega] at this
      exact this.symm
  · rw [if_neg h6, if_pos (by omega)]
    by_cases hfg : f - 6 < g
    · rw [if_pos hfg]
      have := nums_lock (k := k) hfg
      rw [show 3 + g + (f - 6) = f + g - 3 by omega, show 6 + (f - 6) = f by omega] at this
      exact this
    · rw [if_neg hfg]
      have := (hn (f - 6) (by omega) (by omega)).2
      rw [show 6 + (f - 6) = f by omega] at this
      exact this.symm
theorem kt_cells {a b : Kt} (h : ∀ f, f < 11 → a.n f = b.n f) (hr : a.reply = b.reply) : a.cells = b.cells := by
  unfold Kt.cells
  rw [h 0 (by omega), h 1 (by omega), h 2 (by omega), h 3 (by omega), h 4 (by omega), h 5 (by omega), h 6 (by omega), h 7 (by omega), h 8 (by omega), h 9 (by omega), h 10 (by omega), hr]
theorem ktR_val {k : Kt} {g : Nat} (hg : g ≤ 4) (hf : k.fits) (hn : ∀ i, g ≤ i → i < 4 → k.n (2 + i) = 0 ∧ k.n (6 + i) = 0) : (ktR ⟨(valB k g).toArray⟩ g).1.cells = k.cells ∧ (ktR ⟨(valB k g).toArray⟩ g).2 = true := by
  have hv : (⟨(valB k g).toArray⟩ : ByteArray).data.toList = encs (nums k g) ++ (enc k.reply.size ++ k.reply.data.toList) := by show (valB k g) = _; exact valB_nums k g
  have hx := nxs_enc hv (nums_fit hf hg) (3 + 2 * g) (by rw [nums_len]; exact Nat.le_refl _)
  rw [List.take_of_length_le (by rw [nums_len]; exact Nat.le_refl _)] at hx
  have hrl : k.reply.data.toList.length = k.reply.size := by rw [Array.length_toList]; rfl
  have hsz : (⟨(valB k g).toArray⟩ : ByteArray).size = (encs (nums k g)).length + ((enc k.reply.size).length + k.reply.size) := by
    have e : (⟨(valB k g).toArray⟩ : ByteArray).size = (⟨(valB k g).toArray⟩ : ByteArray).data.toList.length := by rw [Array.length_toList]; rfl
    rw [e, hv, List.length_append, List.length_append]
    rw [hrl]
  generalize hS : (⟨(valB k g).toArray⟩ : ByteArray) = S at *
  have hr := hf.rep
  have hi : rdInt S (encs (nums k g)).length = .ok (k.reply.size, (encs (nums k g)).length + (enc k.reply.size).length) := by
    rw [rdInt_list, hv, List.drop_left, rdP_enc0 _ _ (by omega)]
    rfl
  have ht : rdText S (encs (nums k g)).length = .ok (k.reply, S.size) := by
    unfold rdText
    rw [hi]
    simp only
    rw [if_neg (by omega), if_neg (by omega)]
    have e : S.extract ((encs (nums k g)).length + (enc k.reply.size).length) ((encs (nums k g)).length + (enc k.reply.size).length + k.reply.size) = k.reply := by
      apply ByteArray.ext
      apply Array.ext'
      rw [ByteArray.data_extract, Array.toList_extract, hv]
      simp only [List.extract]
      rw [show (encs (nums k g)).length + (enc k.reply.size).length + k.reply.size - ((encs (nums k g)).length + (enc k.reply.size).length) = k.reply.size by omega, ← List.append_assoc, show (encs (nums k g)).length + (enc k.reply.size).length = (encs (nums k g) ++ enc k.reply.size).length by rw [List.length_append], List.drop_left, List.take_of_length_le (by rw [hrl]; exact Nat.le_refl _)]
    rw [e, hsz]
    congr 2
    omega
  unfold ktR
  rw [hx]
  simp only
  rw [ht]
  exact ⟨kt_cells (kOf_nums hg hn) rfl, by simp⟩
end Go.Proofs.YtmcafgmjfgfaeaaDoor
