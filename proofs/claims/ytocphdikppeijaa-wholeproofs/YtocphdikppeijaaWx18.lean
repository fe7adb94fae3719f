/- Texts, messages, lists and bodies there and back. -/
import Derived.Test.YtocphdikppeijaaWx07
import Derived.Test.YtocphdikppeijaaWx15
namespace Go.Proofs.Ytocphdikppeijaa
open Go.RowKit
set_option linter.unusedVariables false
set_option linter.unusedSimpArgs false

theorem extract_list (s : ByteArray) (i n : Nat) : s.extract i (i + n) = ⟨((s.data.toList.drop i).take n).toArray⟩ := by
  apply ByteArray.ext
  rw [ByteArray.data_extract]
  apply Array.ext'
  simp [Array.toList_extract, List.extract_eq_take_drop]

theorem rdText_list (s : ByteArray) (a : Nat) (ha : a ≤ s.size) : rdText s a = shiftR a (rdTP (s.data.toList.drop a)) := by
  unfold rdText rdTP
  rw [rdInt_list]
  cases e : rdP 8 0 0 (s.data.toList.drop a) with
  | error er => simp [shiftR]
  | ok p =>
    obtain ⟨n, c⟩ := p
    have hl : (s.data.toList.drop a).length = s.size - a := by rw [List.length_drop, bytes_len]
    simp only [shiftR]
    split
    · rfl
    · by_cases h : s.size < a + c + n
      · rw [if_pos h, if_pos (by omega)]
      · rw [if_neg h, if_neg (by omega)]
        simp only [extract_list, List.drop_drop, Except.ok.injEq, Prod.mk.injEq]
        constructor <;> first | trivial | rfl | omega

def rdSgL (l : List UInt8) : Except Int (Sg × Nat) := mapR (fun p : Nat × (ByteArray × ByteArray) => (⟨(p.1 : Int), p.2.1, p.2.2⟩ : Sg)) (seqR (rdP 8 0 0) (seqR rdTP rdTP) l)
def okSg (m : Sg) : Prop := (0 ≤ m.frm ∧ m.frm ≤ 9007199254740992) ∧ m.body.size ≤ 1048576 ∧ m.sig.size ≤ 1048576

theorem codecSg : Codec sgB rdSgL okSg := by
  have h := (codecNum.seq (codecText.seq codecText)).iso (fun p : Nat × (ByteArray × ByteArray) => (⟨(p.1 : Int), p.2.1, p.2.2⟩ : Sg)) (fun m => (m.frm.toNat, m.body, m.sig)) okSg
    (fun m hm => by
      obtain ⟨⟨h0, h1⟩, h2, h3⟩ := hm
      refine ⟨?_, by simp only; omega, h2, h3⟩
      obtain ⟨f, b, g⟩ := m
      simp only [Sg.mk.injEq, and_true]
      simp only at h0
      omega)
    (fun p hp => by
      obtain ⟨h1, h2, h3⟩ := hp
      refine ⟨?_, ⟨?_, ?_⟩, h2, h3⟩
      · simp
      · simp
      · simp only; omega)
  exact h

theorem rdSg_list (s : ByteArray) (a : Nat) (ha : a ≤ s.size) : rdSg s a = shiftR a (rdSgL (s.data.toList.drop a)) := by
  unfold rdSg rdSgL seqR
  rw [rdInt_list]
  cases e : rdP 8 0 0 (s.data.toList.drop a) with
  | error er => simp [shiftR, mapR]
  | ok p =>
    obtain ⟨n, c⟩ := p
    obtain ⟨_, _, _, n1⟩ := codecNum.back _ _ _ e
    rw [List.length_drop, bytes_len] at n1
    simp only [shiftR]
    rw [rdText_list s (a + c) (by omega), ← List.drop_drop]
    cases e2 : rdTP ((s.data.toList.drop a).drop c) with
    | error er => simp [shiftR, mapR]
    | ok p =>
      obtain ⟨t, c2⟩ := p
      obtain ⟨_, _, _, n2⟩ := codecText.back _ _ _ e2
      rw [List.length_drop, List.length_drop, bytes_len] at n2
      simp only [shiftR]
      rw [rdText_list s (a + c + c2) (by omega), ← List.drop_drop, ← List.drop_drop]
      cases e3 : rdTP (((s.data.toList.drop a).drop c).drop c2) with
      | error er => simp [shiftR, mapR]
      | ok p =>
        obtain ⟨u, c3⟩ := p
        simp only [shiftR, mapR, Except.ok.injEq, Prod.mk.injEq]
        constructor <;> first | trivial | rfl | omega

theorem rdMany_list (s : ByteArray) : ∀ (k a : Nat) (acc : List Sg), a ≤ s.size → rdMany s k a acc = shiftR a (mapR (acc ++ ·) (repR rdSgL k (s.data.toList.drop a))) := by
  intro k
  induction k with
  | zero => intro a acc ha; simp [rdMany, repR, mapR, shiftR]
  | succ k ih =>
    intro a acc ha
    simp only [rdMany, repR]
    rw [rdSg_list s a ha]
    cases e : rdSgL (s.data.toList.drop a) with
    | error er => simp [shiftR, mapR]
    | ok p =>
      obtain ⟨m, c⟩ := p
      obtain ⟨_, _, _, n1⟩ := codecSg.back _ _ _ e
      rw [List.length_drop, bytes_len] at n1
      simp only [shiftR]
      rw [ih (a + c) (acc ++ [m]) (by omega), ← List.drop_drop]
      cases e2 : repR rdSgL k ((s.data.toList.drop a).drop c) with
      | error er => simp [shiftR, mapR]
      | ok p =>
        obtain ⟨xs, d⟩ := p
        simp only [shiftR, mapR, Except.ok.injEq, Prod.mk.injEq]
        exact ⟨by simp, by omega⟩

theorem rdList_list (s : ByteArray) (a most : Nat) (ha : a ≤ s.size) : rdList s a most = shiftR a (cntR rdSgL most (s.data.toList.drop a)) := by
  unfold rdList rdCount cntR
  rw [rdInt_list]
  cases e : rdP 8 0 0 (s.data.toList.drop a) with
  | error er => simp [shiftR]
  | ok p =>
    obtain ⟨n, c⟩ := p
    obtain ⟨_, _, _, n1⟩ := codecNum.back _ _ _ e
    rw [List.length_drop, bytes_len] at n1
    simp only [shiftR]
    by_cases h : most < n
    · simp only [h, if_true]
    · simp only [h, if_false]
      rw [rdMany_list s n (a + c) [] (by omega), ← List.drop_drop]
      cases e2 : repR rdSgL n ((s.data.toList.drop a).drop c) with
      | error er => simp [shiftR, mapR]
      | ok p =>
        obtain ⟨xs, d⟩ := p
        simp only [shiftR, mapR, Except.ok.injEq, Prod.mk.injEq]
        exact ⟨by simp, by omega⟩

theorem codecSgs : Codec (fun l : List Sg => enc l.length ++ sgsB l) (cntR rdSgL 64) (fun l => l.length ≤ 64 ∧ ∀ m ∈ l, okSg m) := codecSg.cnt 64 (by decide)

abbrev BdT := Nat × (Nat × (Nat × (Nat × (Nat × (ByteArray × (ByteArray × List Sg))))))
def toBd (p : BdT) : Bd := ⟨(p.1 : Int), (p.2.1 : Int), (p.2.2.1 : Int), (p.2.2.2.1 : Int), (p.2.2.2.2.1 : Int), p.2.2.2.2.2.1, p.2.2.2.2.2.2.1, p.2.2.2.2.2.2.2⟩
def ofBd (b : Bd) : BdT := (b.kind.toNat, b.view.toNat, b.seq.toNat, b.client.toNat, b.stamp.toNat, b.digest, b.text, b.list)
def rdBdL (l : List UInt8) : Except Int (Bd × Nat) :=
  mapR toBd (seqR (rdP 8 0 0) (seqR (rdP 8 0 0) (seqR (rdP 8 0 0) (seqR (rdP 8 0 0) (seqR (rdP 8 0 0) (seqR rdTP (seqR rdTP (cntR rdSgL 64))))))) l)
structure okBd (b : Bd) : Prop where
  k : 0 ≤ b.kind ∧ b.kind ≤ 9007199254740992
  v : 0 ≤ b.view ∧ b.view ≤ 9007199254740992
  q : 0 ≤ b.seq ∧ b.seq ≤ 9007199254740992
  c : 0 ≤ b.client ∧ b.client ≤ 9007199254740992
  t : 0 ≤ b.stamp ∧ b.stamp ≤ 9007199254740992
  d : b.digest.size ≤ 1048576
  x : b.text.size ≤ 1048576
  l : b.list.length ≤ 64 ∧ ∀ m ∈ b.list, okSg m

theorem codecBd : Codec bdB rdBdL okBd := by
  have h := (codecNum.seq (codecNum.seq (codecNum.seq (codecNum.seq (codecNum.seq (codecText.seq (codecText.seq codecSgs))))))).iso toBd ofBd okBd
    (fun b hb => by
      obtain ⟨h1, h2, h3, h4, h5, h6, h7, h8⟩ := hb
      refine ⟨?_, by simp only [ofBd]; omega, by simp only [ofBd]; omega, by simp only [ofBd]; omega, by simp only [ofBd]; omega, by simp only [ofBd]; omega, h6, h7, h8⟩
      obtain ⟨k, v, q, c, t, d, x, l⟩ := b
      simp only at h1 h2 h3 h4 h5
      simp only [toBd, ofBd, Bd.mk.injEq, and_true]
      omega)
    (fun p hp => by
      obtain ⟨h1, h2, h3, h4, h5, h6, h7, h8⟩ := hp
      refine ⟨?_, ⟨by simp only [toBd]; omega, by simp only [toBd]; omega, by simp only [toBd]; omega, by simp only [toBd]; omega, by simp only [toBd]; omega, h6, h7, h8⟩⟩
      simp [toBd, ofBd])
  exact h

theorem rdBd_list (s : ByteArray) (a : Nat) (ha : a ≤ s.size) : rdBd s a = shiftR a (rdBdL (s.data.toList.drop a)) := by
  unfold rdBd rdBdL seqR
  rw [rdInt_list]
  cases e0 : rdP 8 0 0 (s.data.toList.drop a) with
  | error er => simp [shiftR, mapR]
  | ok p =>
  obtain ⟨k, c0⟩ := p
  have n0 := (codecNum.back _ _ _ e0).2.2.2
  rw [List.length_drop, bytes_len] at n0
  simp only [shiftR, rdBd1, seqR]
  rw [rdInt_list, ← List.drop_drop]
  cases e1 : rdP 8 0 0 ((s.data.toList.drop a).drop c0) with
  | error er => simp [shiftR, mapR]
  | ok p =>
  obtain ⟨v, c1⟩ := p
  have n1 := (codecNum.back _ _ _ e1).2.2.2
  rw [List.length_drop, List.length_drop, bytes_len] at n1
  simp only [shiftR, rdBd2, seqR]
  rw [rdInt_list, ← List.drop_drop, ← List.drop_drop]
  cases e2 : rdP 8 0 0 (((s.data.toList.drop a).drop c0).drop c1) with
  | error er => simp [shiftR, mapR]
  | ok p =>
  obtain ⟨q, c2⟩ := p
  have n2 := (codecNum.back _ _ _ e2).2.2.2
  rw [List.length_drop, List.length_drop, List.length_drop, bytes_len] at n2
  simp only [shiftR, rdBd3, seqR]
  rw [rdInt_list, ← List.drop_drop, ← List.drop_drop, ← List.drop_drop]
  cases e3 : rdP 8 0 0 ((((s.data.toList.drop a).drop c0).drop c1).drop c2) with
  | error er => simp [shiftR, mapR]
  | ok p =>
  obtain ⟨c, c3⟩ := p
  have n3 := (codecNum.back _ _ _ e3).2.2.2
  rw [List.length_drop, List.length_drop, List.length_drop, List.length_drop, bytes_len] at n3
  simp only [shiftR, rdBd4, seqR]
  rw [rdInt_list, ← List.drop_drop, ← List.drop_drop, ← List.drop_drop, ← List.drop_drop]
  cases e4 : rdP 8 0 0 (((((s.data.toList.drop a).drop c0).drop c1).drop c2).drop c3) with
  | error er => simp [shiftR, mapR]
  | ok p =>
  obtain ⟨t, c4⟩ := p
  have n4 := (codecNum.back _ _ _ e4).2.2.2
  rw [List.length_drop, List.length_drop, List.length_drop, List.length_drop, List.length_drop, bytes_len] at n4
  simp only [shiftR, rdBd5, seqR]
  rw [rdText_list s (a + c0 + c1 + c2 + c3 + c4) (by omega), ← List.drop_drop, ← List.drop_drop, ← List.drop_drop, ← List.drop_drop, ← List.drop_drop]
  cases e5 : rdTP ((((((s.data.toList.drop a).drop c0).drop c1).drop c2).drop c3).drop c4) with
  | error er => simp [shiftR, mapR]
  | ok p =>
  obtain ⟨d, c5⟩ := p
  have n5 := (codecText.back _ _ _ e5).2.2.2
  rw [List.length_drop, List.length_drop, List.length_drop, List.length_drop, List.length_drop, List.length_drop, bytes_len] at n5
  simp only [shiftR, rdBd6, seqR]
  rw [rdText_list s (a + c0 + c1 + c2 + c3 + c4 + c5) (by omega), ← List.drop_drop, ← List.drop_drop, ← List.drop_drop, ← List.drop_drop, ← List.drop_drop, ← List.drop_drop]
  cases e6 : rdTP (((((((s.data.toList.drop a).drop c0).drop c1).drop c2).drop c3).drop c4).drop c5) with
  | error er => simp [shiftR, mapR]
  | ok p =>
  obtain ⟨x, c6⟩ := p
  have n6 := (codecText.back _ _ _ e6).2.2.2
  rw [List.length_drop, List.length_drop, List.length_drop, List.length_drop, List.length_drop, List.length_drop, List.length_drop, bytes_len] at n6
  simp only [shiftR, rdBd7]
  rw [rdList_list s (a + c0 + c1 + c2 + c3 + c4 + c5 + c6) 64 (by omega), ← List.drop_drop, ← List.drop_drop, ← List.drop_drop, ← List.drop_drop, ← List.drop_drop, ← List.drop_drop, ← List.drop_drop]
  cases e7 : cntR rdSgL 64 ((((((((s.data.toList.drop a).drop c0).drop c1).drop c2).drop c3).drop c4).drop c5).drop c6) with
  | error er => simp [shiftR, mapR]
  | ok p =>
  obtain ⟨l, c7⟩ := p
  simp only [shiftR, mapR, toBd, Except.ok.injEq, Prod.mk.injEq, true_and]
  omega
end Go.Proofs.Ytocphdikppeijaa
