/- The request that bytes are: the document's answer. -/
import Derived.Test.YtdaonkgcdheplaaOpO
import Derived.Test.YtdaonkgcdheplaaOpR
namespace Go.Proofs.Ytdaonkgcdheplaa
open Go.RowKit
set_option linter.unusedVariables false
set_option linter.unusedSimpArgs false

set_option maxRecDepth 100000 in
set_option maxHeartbeats 4000000 in
theorem ofOp_ref (s : ByteArray) (w : World) (hs : s.size ≤ maxLen) :
    Calls Try.prog 21 #[.string s] w fun e w' => e = .returned (.tuple (opAns (ofOpR s))) ∧ Below w.heap.size w w' := by
  by_cases hbig : 256 < s.size
  · have hfin : Hid (ofOpR s = .error 4) := by show _ = _; unfold ofOpR; rw [if_pos hbig]
    have hd : decide ((256 : Int) < (s.size : Int)) = true := by simp only [decide_eq_true_eq]; omega
    unfold maxLen at hs
    go_enter Try.func21, Try.ntmps21
    go_wp2
    refine bodyPost_ret (v := .tuple #[zeroOo.val, .int .i64 4]) (by simp [results, Try.results21, go_sem, Oo.val, zeroOo]) rfl ?_
    rw [hfin.out]
    exact ⟨rfl, by go_grown⟩
  have hd : decide ((256 : Int) < (s.size : Int)) = false := by simp only [decide_eq_false_iff_not]; omega
  go_enter Try.func21, Try.ntmps21
  go_wp2
  refine wp_loop_rounds 6 ?_
  rw [rounds_succ]
  go_wp2_with fail
  refine (int_ref s 0 _ hs (Nat.zero_le _)).mono ?_
  cases h0 : rdInt s 0 with
  | error er =>
    have hne : (er != 0) = true := by simpa using rdInt_nz h0
    have hfin : Hid (ofOpR s = .error er) := by show _ = _; unfold ofOpR rdOp; rw [if_neg hbig, h0]
    simp only [got]
    rintro e wx ⟨rfl, rfl⟩
    clear h0
    go_wp2
    refine bodyPost_ret (v := .tuple #[zeroOo.val, .int .i64 er]) (by simp [results, Try.results21, go_sem, Oo.val, zeroOo]) rfl ?_
    rw [hfin.out]
    exact ⟨rfl, by go_grown⟩
  | ok q0 =>
  obtain ⟨n0, a1⟩ := q0
  have l0 := rdInt_le h0
  simp only [got]
  rintro e w0 ⟨rfl, rfl⟩
  go_wp2
  rw [rounds_succ]
  go_wp2_with fail
  refine (int_ref s a1 _ hs l0.2.1).mono ?_
  cases h1 : rdInt s a1 with
  | error er =>
    have hne : (er != 0) = true := by simpa using rdInt_nz h1
    have hfin : Hid (ofOpR s = .error er) := by show _ = _; unfold ofOpR rdOp; rw [if_neg hbig, h0]; simp only [rdOp1]; rw [h1]
    simp only [got]
    rintro e wx ⟨rfl, rfl⟩
    clear h0 h1
    go_wp2
    refine bodyPost_ret (v := .tuple #[zeroOo.val, .int .i64 er]) (by simp [results, Try.results21, go_sem, Oo.val, zeroOo]) rfl ?_
    rw [hfin.out]
    exact ⟨rfl, by go_grown⟩
  | ok q1 =>
  obtain ⟨n1, a2⟩ := q1
  have l1 := rdInt_le h1
  simp only [got]
  rintro e w1 ⟨rfl, rfl⟩
  go_wp2
  rw [rounds_succ]
  go_wp2_with fail
  refine (int_ref s a2 _ hs l1.2.1).mono ?_
  cases h2 : rdInt s a2 with
  | error er =>
    have hne : (er != 0) = true := by simpa using rdInt_nz h2
    have hfin : Hid (ofOpR s = .error er) := by show _ = _; unfold ofOpR rdOp; rw [if_neg hbig, h0]; simp only [rdOp1]; rw [h1]; simp only [rdOp2]; rw [h2]
    simp only [got]
    rintro e wx ⟨rfl, rfl⟩
    clear h0 h1 h2
    go_wp2
    refine bodyPost_ret (v := .tuple #[zeroOo.val, .int .i64 er]) (by simp [results, Try.results21, go_sem, Oo.val, zeroOo]) rfl ?_
    rw [hfin.out]
    exact ⟨rfl, by go_grown⟩
  | ok q2 =>
  obtain ⟨n2, a3⟩ := q2
  have l2 := rdInt_le h2
  simp only [got]
  rintro e w2 ⟨rfl, rfl⟩
  go_wp2
  rw [rounds_succ]
  go_wp2_with fail
  refine (int_ref s a3 _ hs l2.2.1).mono ?_
  cases h3 : rdInt s a3 with
  | error er =>
    have hne : (er != 0) = true := by simpa using rdInt_nz h3
    have hfin : Hid (ofOpR s = .error er) := by show _ = _; unfold ofOpR rdOp; rw [if_neg hbig, h0]; simp only [rdOp1]; rw [h1]; simp only [rdOp2]; rw [h2]; simp only [rdOp3]; rw [h3]
    simp only [got]
    rintro e wx ⟨rfl, rfl⟩
    clear h0 h1 h2 h3
    go_wp2
    refine bodyPost_ret (v := .tuple #[zeroOo.val, .int .i64 er]) (by simp [results, Try.results21, go_sem, Oo.val, zeroOo]) rfl ?_
    rw [hfin.out]
    exact ⟨rfl, by go_grown⟩
  | ok q3 =>
  obtain ⟨n3, a4⟩ := q3
  have l3 := rdInt_le h3
  simp only [got]
  rintro e w3 ⟨rfl, rfl⟩
  go_wp2
  rw [rounds_succ]
  go_wp2_with fail
  refine (int_ref s a4 _ hs l3.2.1).mono ?_
  cases h4 : rdInt s a4 with
  | error er =>
    have hne : (er != 0) = true := by simpa using rdInt_nz h4
    have hfin : Hid (ofOpR s = .error er) := by show _ = _; unfold ofOpR rdOp; rw [if_neg hbig, h0]; simp only [rdOp1]; rw [h1]; simp only [rdOp2]; rw [h2]; simp only [rdOp3]; rw [h3]; simp only [rdOp4]; rw [h4]
    simp only [got]
    rintro e wx ⟨rfl, rfl⟩
    clear h0 h1 h2 h3 h4
    go_wp2
    refine bodyPost_ret (v := .tuple #[zeroOo.val, .int .i64 er]) (by simp [results, Try.results21, go_sem, Oo.val, zeroOo]) rfl ?_
    rw [hfin.out]
    exact ⟨rfl, by go_grown⟩
  | ok q4 =>
  obtain ⟨n4, a5⟩ := q4
  have l4 := rdInt_le h4
  simp only [got]
  rintro e w4 ⟨rfl, rfl⟩
  go_wp2
  by_cases hsh : s.size < a5 + 8
  · have hfin : Hid (ofOpR s = .error 10) := by show _ = _; unfold ofOpR rdOp; rw [if_neg hbig, h0]; simp only [rdOp1]; rw [h1]; simp only [rdOp2]; rw [h2]; simp only [rdOp3]; rw [h3]; simp only [rdOp4]; rw [h4]; simp only [rdOp5]; unfold rd8; rw [if_pos hsh]
    have hd8 : decide ((s.size : Int) - (a5 : Int) < 8) = true := by simp only [decide_eq_true_eq]; omega
    clear h0 h1 h2 h3 h4
    unfold maxLen at hs
    rw [rounds_succ]
    go_wp2
    refine bodyPost_ret (v := .tuple #[zeroOo.val, .int .i64 10]) (by simp [results, Try.results21, go_sem, Oo.val, zeroOo]) rfl ?_
    rw [hfin.out]
    exact ⟨rfl, by go_grown⟩
  have hd8 : decide ((s.size : Int) - (a5 : Int) < 8) = false := by simp only [decide_eq_false_iff_not]; omega
  by_cases htl : a5 + 8 < s.size
  · have hfin : Hid (ofOpR s = .error 12) := by show _ = _; unfold ofOpR rdOp; rw [if_neg hbig, h0]; simp only [rdOp1]; rw [h1]; simp only [rdOp2]; rw [h2]; simp only [rdOp3]; rw [h3]; simp only [rdOp4]; rw [h4]; simp only [rdOp5]; unfold rd8; rw [if_neg hsh]; simp only [htl, if_true]
    have hd9 : decide ((8 : Int) < (s.size : Int) - (a5 : Int)) = true := by simp only [decide_eq_true_eq]; omega
    clear h0 h1 h2 h3 h4
    unfold maxLen at hs
    rw [rounds_succ]
    go_wp2
    refine bodyPost_ret (v := .tuple #[zeroOo.val, .int .i64 12]) (by simp [results, Try.results21, go_sem, Oo.val, zeroOo]) rfl ?_
    rw [hfin.out]
    exact ⟨rfl, by go_grown⟩
  have hfin : Hid (ofOpR s = .ok ⟨n0, n1, n2, n3, n4, leSum s a5 8⟩) := by show _ = _; unfold ofOpR rdOp; rw [if_neg hbig, h0]; simp only [rdOp1]; rw [h1]; simp only [rdOp2]; rw [h2]; simp only [rdOp3]; rw [h3]; simp only [rdOp4]; rw [h4]; simp only [rdOp5]; unfold rd8; rw [if_neg hsh]; simp only [htl, if_false]
  have hd9 : decide ((8 : Int) < (s.size : Int) - (a5 : Int)) = false := by simp only [decide_eq_false_iff_not]; omega
  clear h0 h1 h2 h3 h4
  unfold maxLen at hs
  rw [rounds_succ]
  go_wp2
  go_loop [10, 11] (fun xv iv => ∃ j y : Nat, j ≤ 8 ∧ xv = .int .u64 y ∧ iv = .int .i64 ((j : Int) - 1) ∧ Hid (y * 256 ^ j + leSum s a5 j = leSum s a5 8)) (fun _ iv => (intOf iv + 1).toNat)
  case atStart => exact ⟨8, 0, Nat.le_refl _, rfl, rfl, by show _ = _; simp⟩
  case round =>
    obtain ⟨j, y, hj, rfl, rfl, hy⟩ := hrel
    rcases Nat.eq_zero_or_pos j with h0 | h0
    · subst h0
      have hyv : y = leSum s a5 8 := by have := hy.out; simpa [leSum] using this
      subst hyv
      have hff := run_f64from (leSum s a5 8)
      go_wp2
      go_region
      go_wp2
      refine bodyPost_ret (v := .tuple #[Oo.val ⟨n0, n1, n2, n3, n4, leSum s a5 8⟩, .int .i64 0]) (by simp [results, Try.results21, go_sem, Oo.val]) rfl ?_
      rw [hfin.out]
      exact ⟨rfl, Below.drew (by go_grown)⟩
    · obtain ⟨m, rfl⟩ : ∃ m, j = m + 1 := ⟨j - 1, by omega⟩
      have hbt := byteAt_lt s (a5 + m)
      have hidx : a5 + m < s.size := by omega
      have hba : s[a5 + m].toNat = byteAt s (a5 + m) := by unfold byteAt; rw [dif_pos hidx]
      have h8 := leSum_lt s a5 8
      have hy2 : (y * 256 + byteAt s (a5 + m)) * 256 ^ m + leSum s a5 m = leSum s a5 8 := by
        have h1 := hy.out
        have e : leSum s a5 (m + 1) = leSum s a5 m + byteAt s (a5 + m) * 256 ^ m := rfl
        rw [e] at h1
        have e2 : (y * 256 + byteAt s (a5 + m)) * 256 ^ m = y * 256 ^ (m + 1) + byteAt s (a5 + m) * 256 ^ m := by rw [Nat.add_mul, Nat.pow_succ, Nat.mul_assoc, Nat.mul_comm 256]
        rw [e2]
        omega
      have hlt : y * 256 + byteAt s (a5 + m) < 18446744073709551616 := by
        have h1 : 1 ≤ 256 ^ m := Nat.pow_pos (by decide)
        have h2 : (y * 256 + byteAt s (a5 + m)) * 1 ≤ (y * 256 + byteAt s (a5 + m)) * 256 ^ m := Nat.mul_le_mul_left _ h1
        have h3 : (256 : Nat) ^ 8 = 18446744073709551616 := by decide
        omega
      have HY : Hid _ := hy2
      clear hy hy2 h8
      generalize byteAt s (a5 + m) = c at *
      have hm1 : ((m + 1 : Nat) : Int) - 1 = (m : Int) := by omega
      rw [hm1]
      go_wp2
      exact ⟨⟨m, y * 256 + c, by omega, by simp, rfl, HY⟩, by simp [intOf]⟩
end Go.Proofs.Ytdaonkgcdheplaa
