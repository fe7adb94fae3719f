/- Bodies and their bytes: there and back, a byte more, some fewer, and no second way. -/
import Derived.Test.YtbbhihkeljpikaaPure3
import Derived.Test.YtbbhihkeljpikaaOfF
namespace Go.Proofs.Ytbbhihkeljpikaa
open Go.RowKit
set_option linter.unusedVariables false
set_option linter.unusedSimpArgs false

theorem okSg_of (m : Sg) (h : sgOk m = true) : okSg m := by
  unfold sgOk at h
  simp only [Bool.and_eq_true, decide_eq_true_eq] at h
  exact ⟨⟨h.1.1.1, by omega⟩, h.1.2, by omega⟩

theorem okBd_of {b : Bd} (h : right b = 0) : okBd b := by
  obtain ⟨hk, hv, hsq, hc, hst, hdg, htx, hll, hal⟩ := right_ok h
  exact ⟨by omega, by omega, by omega, by omega, by omega, by omega, htx, hll, fun m hm => okSg_of m ((List.all_eq_true.1 hal) m hm)⟩

theorem arr_size (l : List UInt8) : (⟨l.toArray⟩ : ByteArray).size = l.length := by
  show l.toArray.size = _; simp

theorem rdBd_bytes (b : Bd) (post : List UInt8) (h : right b = 0) : rdBd ⟨(bdB b ++ post).toArray⟩ 0 = .ok (b, (bdB b).length) := by
  rw [rdBd_list _ 0 (Nat.zero_le _)]
  simp only [List.drop_zero, List.toList_toArray]
  rw [codecBd.there b post (okBd_of h)]
  simp [shiftR]

theorem of_bytes (b : Bd) (h : right b = 0) (hl : (bdB b).length ≤ 1048576) : ofR ⟨(bdB b).toArray⟩ = .ok b := by
  have hr := rdBd_bytes b [] h
  rw [List.append_nil] at hr
  unfold ofR
  rw [arr_size, if_neg (by omega), hr]
  simp only
  rw [if_neg (by omega), if_pos h]

theorem of_more (b : Bd) (more : List UInt8) (h : right b = 0) (hm : 0 < more.length) (hl : (bdB b).length + more.length ≤ 1048576) : ofR ⟨(bdB b ++ more).toArray⟩ = .error 12 := by
  unfold ofR
  rw [arr_size, List.length_append, if_neg (by omega), rdBd_bytes b more h]
  simp only
  rw [if_pos (by omega)]

theorem of_cut (b : Bd) (j : Nat) (h : right b = 0) (hl : (bdB b).length ≤ 1048576) (hj : j < (bdB b).length) : ofR ⟨((bdB b).take j).toArray⟩ = .error 10 := by
  unfold ofR
  rw [arr_size, List.length_take, if_neg (by omega), rdBd_list _ 0 (Nat.zero_le _)]
  simp only [List.drop_zero, List.toList_toArray]
  rw [codecBd.cut b j (okBd_of h) hj]
  simp [shiftR]

theorem of_canon {s : ByteArray} {b : Bd} (h : ofR s = .ok b) : right b = 0 ∧ bdB b = s.data.toList ∧ s.size ≤ 1048576 := by
  unfold ofR at h
  split at h
  · cases h
  · rename_i hs
    rw [rdBd_list _ 0 (Nat.zero_le _)] at h
    simp only [List.drop_zero] at h
    cases e : rdBdL s.data.toList with
    | error er => rw [e] at h; simp [shiftR] at h
    | ok p =>
      obtain ⟨b', c⟩ := p
      rw [e] at h
      simp only [shiftR] at h
      split at h
      · cases h
      · rename_i ht
        split at h
        · rename_i hr
          simp only [Except.ok.injEq] at h
          subst h
          obtain ⟨_, k, t, n⟩ := codecBd.back _ _ _ e
          rw [bytes_len] at n
          have hc : c = s.size := by omega
          rw [hc] at t
          rw [← bytes_len, List.take_length] at t
          exact ⟨hr, t.symm, by omega⟩
        · cases h

theorem bdB_inj {a b : Bd} (ha : right a = 0) (hb : right b = 0) (h : bdB a = bdB b) : a = b := by
  have h1 := codecBd.there a [] (okBd_of ha)
  have h2 := codecBd.there b [] (okBd_of hb)
  rw [h, h2] at h1
  simp only [Except.ok.injEq, Prod.mk.injEq] at h1
  exact h1.1.symm

/-- An error of the reader's is never OK. -/
theorem bdB_pos (b : Bd) : 0 < (bdB b).length := by
  unfold bdB
  have := enc_pos b.kind.toNat
  rw [List.length_append]; omega
end Go.Proofs.Ytbbhihkeljpikaa
