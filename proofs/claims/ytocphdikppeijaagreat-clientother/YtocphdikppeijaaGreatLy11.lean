/- Texts, messages, lists and bodies there and back. -/
import Derived.Test.YtocphdikppeijaaGreatLy04
import Derived.Test.YtocphdikppeijaaGreatLy09
import Derived.Test.YtocphdikppeijaaGreatLy10
import Derived.WalkKit
import Derived.ProofKit
namespace Go.Proofs.YtocphdikppeijaaGreat
open Go.RowKit
set_option linter.unusedVariables false
set_option linter.unusedSimpArgs false

theorem extract_list (s : ByteArray) (i n : Nat) : s.extract i (i + n) = ⟨((s.data.toList.drop i).take n).toArray⟩ := by
  apply ByteArray.ext
  rw [ByteArray.data_extract]
  apply Array.ext'
  simp [Array.toList_extract, List.extract_eq_take_drop]

theorem rdText_list (s : ByteArray) (a : Nat) (ha : a ≤ s.size) : rdText s a = shiftR a (rdTP (s.data.toList.drop a)) := by
  unfold rdText rdTP
  rw [rdInt_list]
  cases e : rdP 8 0 0 (s.data.toList.drop a) with
  | error er => simp [shiftR]
  | ok p =>
    obtain ⟨n, c⟩ := p
    have hl : (s.data.toList.drop a).length = s.size - a := by rw [List.length_drop, bytes_len]
    simp only [shiftR]
    split
    · rfl
    · by_cases h : s.size < a + c + n
      · rw [if_pos h, if_pos (by omega)]
      · rw [if_neg h, if_neg (by omega)]
        simp only [extract_list, List.drop_drop, Except.ok.injEq, Prod.mk.injEq]
        constructor <;> first | trivial | rfl | omega

def rdSgL (l : List UInt8) : Except Int (Sg × Nat) := mapR (fun p : Nat × (ByteArray × ByteArray) => (⟨(p.1 : Int), p.2.1, p.2.2⟩ : Sg)) (seqR (rdP 8 0 0) (seqR rdTP rdTP) l)
def okSg (m : Sg) : Prop := (0 ≤ m.frm ∧ m.frm ≤ 9007199254740992) ∧ m.body.size ≤ 1048576 ∧ m.sig.size ≤ 1048576

theorem codecSg : Codec sgB rdSgL okSg := by
  have h := (codecNum.seq (codecText.seq codecText)).iso (fun p : Nat × (ByteArray × ByteArray) => (⟨(p.1 : Int), p.2.1, p.2.2⟩ : Sg)) (fun m => (m.frm.toNat, m.body, m.sig)) okSg
    (fun m hm => by
      obtain ⟨⟨h0, h1⟩, h2, h3⟩ := hm
      refine ⟨?_, by simp only; omega, h2, h3⟩
      obtain ⟨f, b, g⟩ := m
      simp only [Sg.mk.injEq, and_true]
      simp only at h0
      omega)
    (fun p hp => by
      obtain ⟨h1, h2, h3⟩ := hp
      refine ⟨?_, ⟨?_, ?_⟩, h2, h3⟩
      · simp
      · simp
      · simp only; omega)
  exact h

theorem rdSg_list (s : ByteArray) (a : Nat) (ha : a ≤ s.size) : rdSg s a = shiftR a (rdSgL (s.data.toList.drop a)) := by
  unfold rdSg rdSgL seqR
  rw [rdInt_list]
  cases e : rdP 8 0 0 (s.data.toList.drop a) with
  | error er => simp [shiftR, mapR]
  | ok p =>
    obtain ⟨n, c⟩ := p
    obtain ⟨_, _, _, n1⟩ := codecNum.back _ _ _ e
    rw [List.length_drop, bytes_len] at n1
    simp only [shiftR]
    rw [rdText_list s (a + c) (by omega), ← List.drop_drop]
    cases e2 : rdTP ((s.data.toList.drop a).drop c) with
    | error er => simp [shiftR, mapR]
    | ok p =>
      obtain ⟨t, c2⟩ := p
      obtain ⟨_, _, _, n2⟩ := codecText.back _ _ _ e2
      rw [List.length_drop, List.length_drop, bytes_len] at n2
      simp only [shiftR]
      rw [rdText_list s (a + c + c2) (by omega), ← List.drop_drop, ← List.drop_drop]
      cases e3 : rdTP (((s.data.toList.drop a).drop c).drop c2) with
      | error er => simp [shiftR, mapR]
      | ok p =>
        obtain ⟨u, c3⟩ := p
        simp only [shiftR, mapR, Except.ok.injEq, Prod.mk.injEq]
        constructor <;> first | trivial | rfl | omega

theorem rdMany_list (s : ByteArray) : ∀ (k a : Nat) (acc : List Sg), a ≤ s.size → rdMany s k a acc = shiftR a (mapR (acc ++ ·) (repR rdSgL k (s.data.toList.drop a))) := by
  intro k
  induction k with
  | zero => intro a acc ha; simp [rdMany, repR, mapR, shiftR]
  | succ k ih =>
    intro a acc ha
    simp only [rdMany, repR]
    rw [rdSg_list s a ha]
    cases e : rdSgL (s.data.toList.drop a) with
    | error er => simp [shiftR, mapR]
    | ok p =>
      obtain ⟨m, c⟩ := p
      obtain ⟨_, _, _, n1⟩ := codecSg.back _ _ _ e
      rw [List.length_drop, bytes_len] at n1
      simp only [shiftR]
      rw [ih (a + c) (acc ++ [m]) (by omega), ← List.drop_drop]
      cases e2 : repR rdSgL k ((s.data.toList.drop a).drop c) with
      | error er => simp [shiftR, mapR]
      | ok p =>
        obtain ⟨xs, d⟩ := p
        simp only [shiftR, mapR, Except.ok.injEq, Prod.mk.injEq]
        exact ⟨by simp, by omega⟩

theorem rdList_list (s : ByteArray) (a most : Nat) (ha : a ≤ s.size) : rdList s a most = shiftR a (cntR rdSgL most (s.data.toList.drop a)) := by
  unfold rdList rdCount cntR
  rw [rdInt_list]
  cases e : rdP 8 0 0 (s.data.toList.drop a) with
  | error er => simp [shiftR]
  | ok p =>
    obtain ⟨n, c⟩ := p
    obtain ⟨_, _, _, n1⟩ := codecNum.back _ _ _ e
    rw [List.length_drop, bytes_len] at n1
    simp only [shiftR]
    by_cases h : most < n
    · simp only [h, if_true]
    · simp only [h, if_false]
      rw [rdMany_list s n (a + c) [] (by omega), ← List.drop_drop]
      cases e2 : repR rdSgL n ((s.data.toList.drop a).drop c) with
      | error er => simp [shiftR, mapR]
      | ok p =>
        obtain ⟨xs, d⟩ := p
        simp only [shiftR, mapR, Except.ok.injEq, Prod.mk.injEq]
        exact ⟨by simp, by omega⟩

theorem codecSgs : Codec (fun l : List Sg => enc l.length ++ sgsB l) (cntR rdSgL 64) (fun l => l.length ≤ 64 ∧ ∀ m ∈ l, okSg m) := codecSg.cnt 64 (by decide)

abbrev BdT := Nat × (Nat × (Nat × (Nat × (Nat × (ByteArray × (ByteArray × List Sg))))))
def toBd (p : BdT) : Bd := ⟨(p.1 : Int), (p.2.1 : Int), (p.2.2.1 : Int), (p.2.2.2.1 : Int), (p.2.2.2.2.1 : Int), p.2.2.2.2.2.1, p.2.2.2.2.2.2.1, p.2.2.2.2.2.2.2⟩
def ofBd (b : Bd) : BdT := (b.kind.toNat, b.view.toNat, b.seq.toNat, b.client.toNat, b.stamp.toNat, b.digest, b.text, b.list)
def rdBdL (l : List UInt8) : Except Int (Bd × Nat) :=
  mapR toBd (seqR (rdP 8 0 0) (seqR (rdP 8 0 0) (seqR (rdP 8 0 0) (seqR (rdP 8 0 0) (seqR (rdP 8 0 0) (seqR rdTP (seqR rdTP (cntR rdSgL 64))))))) l)
structure okBd (b : Bd) : Prop where
  k : 0 ≤ b.kind ∧ b.kind ≤ 9007199254740992
  v : 0 ≤ b.view ∧ b.view ≤ 9007199254740992
  q : 0 ≤ b.seq ∧ b.seq ≤ 9007199254740992
  c : 0 ≤ b.client ∧ b.client ≤ 9007199254740992
  t : 0 ≤ b.stamp ∧ b.stamp ≤ 9007199254740992
  d : b.digest.size ≤ 1048576
  x : b.text.size ≤ 1048576
  l : b.list.length ≤ 64 ∧ ∀ m ∈ b.list, okSg m

theorem codecBd : Codec bdB rdBdL okBd := by
  have h := (codecNum.seq (codecNum.seq (codecNum.seq (codecNum.seq (codecNum.seq (codecText.seq (codecText.seq codecSgs))))))).iso toBd ofBd okBd
    (fun b hb => by
      obtain ⟨h1, h2, h3, h4, h5, h6, h7, h8⟩ := hb
      refine ⟨?_, by simp only [ofBd]; omega, by simp only [ofBd]; omega, by simp only [ofBd]; omega, by simp only [ofBd]; omega, by simp only [ofBd]; omega, h6, h7, h8⟩
      obtain ⟨k, v, q, c, t, d, x, l⟩ := b
      simp only at h1 h2 h3 h4 h5
      simp only [toBd, ofBd, Bd.mk.injEq, and_true]
      omega)
    (fun p hp => by
      obtain ⟨h1, h2, h3, h4, h5, h6, h7, h8⟩ := hp
      refine ⟨?_, ⟨by simp only [toBd]; omega, by simp only [toBd]; omega, by simp only [toBd]; omega, by simp only [toBd]; omega, by simp only [toBd]; omega, h6, h7, h8⟩⟩
      simp [toBd, ofBd])
  exact h

theorem rdBd_list (s : ByteArray) (a : Nat) (ha : a ≤ s.size) : rdBd s a = shiftR a (rdBdL (s.data.toList.drop a)) := by
  unfold rdBd rdBdL seqR
  rw [rdInt_list]
  cases e0 : rdP 8 0 0 (s.data.toList.drop a) with
  | error er => simp [shiftR, mapR]
  | ok p =>
  obtain ⟨k, c0⟩ := p
  have n0 := (codecNum.back _ _ _ e0).2.2.2
  rw [List.length_drop, bytes_len] at n0
  simp only [shiftR, rdBd1, seqR]
  rw [rdInt_list, ← List.drop_drop]
  cases e1 : rdP 8 0 0 ((s.data.toList.drop a).drop c0) with
  | error er => simp [shiftR, mapR]
  | ok p =>
  obtain ⟨v, c1⟩ := p
  have n1 := (codecNum.back _ _ _ e1).2.2.2
  rw [List.length_drop, List.length_drop, bytes_len] at n1
  simp only [shiftR, rdBd2, seqR]
  rw [rdInt_list, ← List.drop_drop, ← List.drop_drop]
  cases e2 : rdP 8 0 0 (((s.data.toList.drop a).drop c0).drop c1) with
  | error er => simp [shiftR, mapR]
  | ok p =>
  obtain ⟨q, c2⟩ := p
  have n2 := (codecNum.back _ _ _ e2).2.2.2
  rw [List.length_drop, List.length_drop, List.length_drop, bytes_len] at n2
  simp only [shiftR, rdBd3, seqR]
  rw [rdInt_list, ← List.drop_drop, ← List.drop_drop, ← List.drop_drop]
  cases e3 : rdP 8 0 0 ((((s.data.toList.drop a).drop c0).drop c1).drop c2) with
  | error er => simp [shiftR, mapR]
  | ok p =>
  obtain ⟨c, c3⟩ := p
  have n3 := (codecNum.back _ _ _ e3).2.2.2
  rw [List.length_drop, List.length_drop, List.length_drop, List.length_drop, bytes_len] at n3
  simp only [shiftR, rdBd4, seqR]
  rw [rdInt_list, ← List.drop_drop, ← List.drop_drop, ← List.drop_drop, ← List.drop_drop]
  cases e4 : rdP 8 0 0 (((((s.data.toList.drop a).drop c0).drop c1).drop c2).drop c3) with
  | error er => simp [shiftR, mapR]
  | ok p =>
  obtain ⟨t, c4⟩ := p
  have n4 := (codecNum.back _ _ _ e4).2.2.2
  rw [List.length_drop, List.length_drop, List.length_drop, List.length_drop, List.length_drop, bytes_len] at n4
  simp only [shiftR, rdBd5, seqR]
  rw [rdText_list s (a + c0 + c1 + c2 + c3 + c4) (by omega), ← List.drop_drop, ← List.drop_drop, ← List.drop_drop, ← List.drop_drop, ← List.drop_drop]
  cases e5 : rdTP ((((((s.data.toList.drop a).drop c0).drop c1).drop c2).drop c3).drop c4) with
  | error er => simp [shiftR, mapR]
  | ok p =>
  obtain ⟨d, c5⟩ := p
  have n5 := (codecText.back _ _ _ e5).2.2.2
  rw [List.length_drop, List.length_drop, List.length_drop, List.length_drop, List.length_drop, List.length_drop, bytes_len] at n5
  simp only [shiftR, rdBd6, seqR]
  rw [rdText_list s (a + c0 + c1 + c2 + c3 + c4 + c5) (by omega), ← List.drop_drop, ← List.drop_drop, ← List.drop_drop, ← List.drop_drop, ← List.drop_drop, ← List.drop_drop]
  cases e6 : rdTP (((((((s.data.toList.drop a).drop c0).drop c1).drop c2).drop c3).drop c4).drop c5) with
  | error er => simp [shiftR, mapR]
  | ok p =>
  obtain ⟨x, c6⟩ := p
  have n6 := (codecText.back _ _ _ e6).2.2.2
  rw [List.length_drop, List.length_drop, List.length_drop, List.length_drop, List.length_drop, List.length_drop, List.length_drop, bytes_len] at n6
  simp only [shiftR, rdBd7]
  rw [rdList_list s (a + c0 + c1 + c2 + c3 + c4 + c5 + c6) 64 (by omega), ← List.drop_drop, ← List.drop_drop, ← List.drop_drop, ← List.drop_drop, ← List.drop_drop, ← List.drop_drop, ← List.drop_drop]
  cases e7 : cntR rdSgL 64 ((((((((s.data.toList.drop a).drop c0).drop c1).drop c2).drop c3).drop c4).drop c5).drop c6) with
  | error er => simp [shiftR, mapR]
  | ok p =>
  obtain ⟨l, c7⟩ := p
  simp only [shiftR, mapR, toBd, Except.ok.injEq, Prod.mk.injEq, true_and]
  omega
end Go.Proofs.YtocphdikppeijaaGreat

namespace Go.Proofs.YtocphdikppeijaaGreat
open Go.RowKit
set_option linter.unusedVariables false
set_option linter.unusedSimpArgs false

theorem okSg_of (m : Sg) (h : sgOk m = true) : okSg m := by
  unfold sgOk at h
  simp only [Bool.and_eq_true, decide_eq_true_eq] at h
  exact ⟨⟨h.1.1.1, by omega⟩, h.1.2, by omega⟩

theorem okBd_of {b : Bd} (h : right b = 0) : okBd b := by
  obtain ⟨hk, hv, hsq, hc, hst, hdg, htx, hll, hal⟩ := right_ok h
  exact ⟨by omega, by omega, by omega, by omega, by omega, by omega, htx, hll, fun m hm => okSg_of m ((List.all_eq_true.1 hal) m hm)⟩

theorem arr_size (l : List UInt8) : (⟨l.toArray⟩ : ByteArray).size = l.length := by
  show l.toArray.size = _; simp

theorem rdBd_bytes (b : Bd) (post : List UInt8) (h : right b = 0) : rdBd ⟨(bdB b ++ post).toArray⟩ 0 = .ok (b, (bdB b).length) := by
  rw [rdBd_list _ 0 (Nat.zero_le _)]
  simp only [List.drop_zero, List.toList_toArray]
  rw [codecBd.there b post (okBd_of h)]
  simp [shiftR]

theorem of_bytes (b : Bd) (h : right b = 0) (hl : (bdB b).length ≤ 1048576) : ofR ⟨(bdB b).toArray⟩ = .ok b := by
  have hr := rdBd_bytes b [] h
  rw [List.append_nil] at hr
  unfold ofR
  rw [arr_size, if_neg (by omega), hr]
  simp only
  rw [if_neg (by omega), if_pos h]

theorem of_more (b : Bd) (more : List UInt8) (h : right b = 0) (hm : 0 < more.length) (hl : (bdB b).length + more.length ≤ 1048576) : ofR ⟨(bdB b ++ more).toArray⟩ = .error 12 := by
  unfold ofR
  rw [arr_size, List.length_append, if_neg (by omega), rdBd_bytes b more h]
  simp only
  rw [if_pos (by omega)]

theorem of_cut (b : Bd) (j : Nat) (h : right b = 0) (hl : (bdB b).length ≤ 1048576) (hj : j < (bdB b).length) : ofR ⟨((bdB b).take j).toArray⟩ = .error 10 := by
  unfold ofR
  rw [arr_size, List.length_take, if_neg (by omega), rdBd_list _ 0 (Nat.zero_le _)]
  simp only [List.drop_zero, List.toList_toArray]
  rw [codecBd.cut b j (okBd_of h) hj]
  simp [shiftR]

theorem of_canon {s : ByteArray} {b : Bd} (h : ofR s = .ok b) : right b = 0 ∧ bdB b = s.data.toList ∧ s.size ≤ 1048576 := by
  unfold ofR at h
  split at h
  · cases h
  · rename_i hs
    rw [rdBd_list _ 0 (Nat.zero_le _)] at h
    simp only [List.drop_zero] at h
    cases e : rdBdL s.data.toList with
    | error er => rw [e] at h; simp [shiftR] at h
    | ok p =>
      obtain ⟨b', c⟩ := p
      rw [e] at h
      simp only [shiftR] at h
      split at h
      · cases h
      · rename_i ht
        split at h
        · rename_i hr
          simp only [Except.ok.injEq] at h
          subst h
          obtain ⟨_, k, t, n⟩ := codecBd.back _ _ _ e
          rw [bytes_len] at n
          have hc : c = s.size := by omega
          rw [hc] at t
          rw [← bytes_len, List.take_length] at t
          exact ⟨hr, t.symm, by omega⟩
        · cases h

theorem bdB_inj {a b : Bd} (ha : right a = 0) (hb : right b = 0) (h : bdB a = bdB b) : a = b := by
  have h1 := codecBd.there a [] (okBd_of ha)
  have h2 := codecBd.there b [] (okBd_of hb)
  rw [h, h2] at h1
  simp only [Except.ok.injEq, Prod.mk.injEq] at h1
  exact h1.1.symm

/-- An error of the reader's is never OK. -/
theorem bdB_pos (b : Bd) : 0 < (bdB b).length := by
  unfold bdB
  have := enc_pos b.kind.toNat
  rw [List.length_append]; omega
end Go.Proofs.YtocphdikppeijaaGreat

namespace Go.Proofs.YtocphdikppeijaaGreat
open Go.RowKit
set_option linter.unusedVariables false
set_option linter.unusedSimpArgs false

def NZ {α : Type} (rd : List UInt8 → Except Int (α × Nat)) : Prop := ∀ l er, rd l = .error er → er ≠ 0

theorem nz_num : ∀ k i n, NZ (rdP k i n) := by
  intro k
  induction k with
  | zero => intro i n l er h; simp [rdP] at h; omega
  | succ k ih =>
    intro i n l er h
    cases l with
    | nil => simp [rdP] at h; omega
    | cons c l =>
      simp only [rdP] at h
      split at h
      · exact ih _ _ _ _ h
      · split at h
        · simp at h; omega
        · cases h
theorem nz_seq {α β : Type} {r1 : List UInt8 → Except Int (α × Nat)} {r2 : List UInt8 → Except Int (β × Nat)} (h1 : NZ r1) (h2 : NZ r2) : NZ (seqR r1 r2) := by
  intro l er h
  unfold seqR at h
  cases e1 : r1 l with
  | error e => rw [e1] at h; simp only [Except.error.injEq] at h; subst h; exact h1 _ _ e1
  | ok p =>
    obtain ⟨x, c⟩ := p
    rw [e1] at h
    simp only at h
    cases e2 : r2 (l.drop c) with
    | error e => rw [e2] at h; simp only [Except.error.injEq] at h; subst h; exact h2 _ _ e2
    | ok p => rw [e2] at h; cases h
theorem nz_map {α β : Type} {r : List UInt8 → Except Int (α × Nat)} (f : α → β) (h : NZ r) : NZ (fun l => mapR f (r l)) := by
  intro l er hh
  cases e : r l with
  | error e' => simp only [e, mapR, Except.error.injEq] at hh; subst hh; exact h _ _ e
  | ok p => simp only [e, mapR] at hh; cases hh
theorem nz_text : NZ rdTP := by
  intro l er h
  unfold rdTP at h
  cases e1 : rdP 8 0 0 l with
  | error e => rw [e1] at h; simp only [Except.error.injEq] at h; subst h; exact nz_num _ _ _ _ _ e1
  | ok p =>
    obtain ⟨n, c⟩ := p
    rw [e1] at h
    simp only at h
    split at h
    · simp at h; omega
    · split at h
      · simp at h; omega
      · cases h
theorem nz_rep {α : Type} {r : List UInt8 → Except Int (α × Nat)} (h : NZ r) : ∀ k, NZ (repR r k) := by
  intro k
  induction k with
  | zero => intro l er hh; simp [repR] at hh
  | succ k ih =>
    intro l er hh
    simp only [repR] at hh
    cases e1 : r l with
    | error e => rw [e1] at hh; simp only [Except.error.injEq] at hh; subst hh; exact h _ _ e1
    | ok p =>
      obtain ⟨x, c⟩ := p
      rw [e1] at hh
      simp only at hh
      cases e2 : repR r k (l.drop c) with
      | error e => rw [e2] at hh; simp only [Except.error.injEq] at hh; subst hh; exact ih _ _ e2
      | ok p => rw [e2] at hh; cases hh
theorem nz_cnt {α : Type} {r : List UInt8 → Except Int (α × Nat)} (h : NZ r) (most : Nat) : NZ (cntR r most) := by
  intro l er hh
  unfold cntR at hh
  cases e1 : rdP 8 0 0 l with
  | error e => rw [e1] at hh; simp only [Except.error.injEq] at hh; subst hh; exact nz_num _ _ _ _ _ e1
  | ok p =>
    obtain ⟨n, c⟩ := p
    rw [e1] at hh
    simp only at hh
    split at hh
    · simp at hh; omega
    · cases e2 : repR r n (l.drop c) with
      | error e => rw [e2] at hh; simp only [Except.error.injEq] at hh; subst hh; exact nz_rep h _ _ _ e2
      | ok p => rw [e2] at hh; cases hh
theorem nz_sg : NZ rdSgL := nz_map _ (nz_seq (nz_num _ _ _) (nz_seq nz_text nz_text))
theorem nz_bd : NZ rdBdL := nz_map _ (nz_seq (nz_num _ _ _) (nz_seq (nz_num _ _ _) (nz_seq (nz_num _ _ _) (nz_seq (nz_num _ _ _) (nz_seq (nz_num _ _ _) (nz_seq nz_text (nz_seq nz_text (nz_cnt nz_sg 64))))))))

theorem ofR_err {s : ByteArray} {er : Int} (h : ofR s = .error er) : er ≠ 0 := by
  unfold ofR at h
  split at h
  · simp at h; omega
  · rw [rdBd_list _ 0 (Nat.zero_le _)] at h
    cases e : rdBdL (s.data.toList.drop 0) with
    | error er' => rw [e] at h; simp only [shiftR, Except.error.injEq] at h; subst h; exact nz_bd _ _ e
    | ok p =>
      obtain ⟨b, c⟩ := p
      rw [e] at h
      simp only [shiftR] at h
      split at h
      · simp at h; omega
      · split at h
        · cases h
        · rename_i hr
          simp only [Except.error.injEq] at h
          subst h; exact hr
end Go.Proofs.YtocphdikppeijaaGreat

namespace Go.Proofs.YtocphdikppeijaaGreat
open Go.RowKit
set_option linter.unusedSimpArgs false
set_option linter.unusedVariables false

section
variable {α : Type} [DecidableEq α]
/-- Where a key stands, counted from i on. -/
def seek (k : α) : List α → Nat → Option Nat
  | [], _ => none
  | x :: xs, i => if k = x then some i else seek k xs (i + 1)
/-- A list with a key noted, if it is new. -/
def note (l : List α) (k : α) : List α := if k ∈ l then l else l ++ [k]
/-- A key's number, from 1 on. -/
def num (l : List α) (k : α) : Nat := (seek k l 0).getD 0 + 1

/-- Is a key there? -/
def isIn (l : List α) (k : α) : Bool := (seek k l 0).isSome
theorem seek_none (k : α) (l : List α) (i : Nat) (h : k ∉ l) : seek k l i = none := by
  induction l generalizing i with
  | nil => rfl
  | cons x xs ih =>
    simp only [List.mem_cons, not_or] at h
    simp [seek, h.1, ih _ h.2]
theorem seek_some (k : α) (l : List α) (i : Nat) (h : k ∈ l) : ∃ j, seek k l i = some (i + j) ∧ l[j]? = some k ∧ j < l.length := by
  induction l generalizing i with
  | nil => simp at h
  | cons x xs ih =>
    by_cases hx : k = x
    · exact ⟨0, by simp [seek, hx], by simp [hx], by simp⟩
    · have h2 : k ∈ xs := by simpa [hx] using h
      obtain ⟨j, h1, h3, h4⟩ := ih (i + 1) h2
      exact ⟨j + 1, by simp only [seek, if_neg hx, h1]; congr 1; omega, by simpa using h3, by simpa using h4⟩
theorem seek_isSome (k : α) (l : List α) (i : Nat) : (seek k l i).isSome = decide (k ∈ l) := by
  by_cases h : k ∈ l
  · obtain ⟨j, h1, _⟩ := seek_some k l i h
    simp [h1, h]
  · simp [seek_none k l i h, h]
theorem isIn_iff (l : List α) (k : α) : isIn l k = true ↔ k ∈ l := by unfold isIn; rw [seek_isSome]; simp
theorem isIn_false (l : List α) (k : α) : isIn l k = false ↔ k ∉ l := by rw [← isIn_iff]; simp
theorem seek_app (k : α) (l m : List α) (i : Nat) (h : k ∈ l) : seek k (l ++ m) i = seek k l i := by
  induction l generalizing i with
  | nil => simp at h
  | cons x xs ih =>
    by_cases hx : k = x
    · simp [seek, hx]
    · have h2 : k ∈ xs := by simpa [hx] using h
      simp [seek, hx, ih _ h2]
theorem seek_new (k : α) (l : List α) (i : Nat) (h : k ∉ l) : seek k (l ++ [k]) i = some (i + l.length) := by
  induction l generalizing i with
  | nil => simp [seek]
  | cons x xs ih =>
    simp only [List.mem_cons, not_or] at h
    simp only [List.cons_append, seek, if_neg h.1, ih _ h.2, List.length_cons]
    congr 1; omega
theorem mem_note (l : List α) (x y : α) : y ∈ note l x ↔ y ∈ l ∨ y = x := by
  unfold note
  split
  · rename_i h
    constructor
    · exact Or.inl
    · rintro (h1 | rfl)
      · exact h1
      · exact h
  · simp
theorem note_old {l : List α} {k : α} (h : k ∈ l) : note l k = l := if_pos h
theorem note_new {l : List α} {k : α} (h : k ∉ l) : note l k = l ++ [k] := if_neg h
theorem note_len (l : List α) (k : α) : (note l k).length ≤ l.length + 1 := by
  unfold note; split <;> simp
theorem num_note {l : List α} {k : α} (x : α) (h : k ∈ l) : num (note l x) k = num l k := by
  unfold note num
  split
  · rfl
  · rw [seek_app k l [x] 0 h]
theorem num_new {l : List α} {k : α} (h : k ∉ l) : num (note l k) k = l.length + 1 := by
  rw [note_new h]; unfold num; rw [seek_new k l 0 h]; simp
theorem num_at {l : List α} {k : α} (h : k ∈ l) : l[num l k - 1]? = some k ∧ num l k ≤ l.length ∧ 1 ≤ num l k := by
  obtain ⟨j, h1, h2, h3⟩ := seek_some k l 0 h
  unfold num; rw [h1]; simp only [Option.getD_some, Nat.zero_add, Nat.add_sub_cancel]
  exact ⟨h2, h3, by omega⟩
theorem num_inj {l : List α} {k k' : α} (h : k ∈ l) (h' : k' ∈ l) (e : num l k = num l k') : k = k' := by
  have a := (num_at h).1
  have b := (num_at h').1
  rw [e, b] at a
  injection a with a
  exact a.symm
theorem num_pos (l : List α) (k : α) : 1 ≤ num l k := by unfold num; omega
theorem num_le (l : List α) (k : α) : num l k ≤ l.length + 1 := by
  by_cases h : k ∈ l
  · have := (num_at h).2.1; omega
  · unfold num; rw [seek_none k l 0 h]; simp
end

/-- The eight bytes of a number, the highest first. -/
def eightL (n : Nat) : List UInt8 := [UInt8.ofNat (n / 256 ^ 7), UInt8.ofNat (n / 256 ^ 6), UInt8.ofNat (n / 256 ^ 5), UInt8.ofNat (n / 256 ^ 4), UInt8.ofNat (n / 256 ^ 3), UInt8.ofNat (n / 256 ^ 2), UInt8.ofNat (n / 256), UInt8.ofNat n]
def eightB (n : Nat) : ByteArray := ⟨(eightL n).toArray⟩
/-- A signature's bytes. -/
def sgnB (n : Nat) : ByteArray := ⟨(115 :: eightL n).toArray⟩
theorem eightL_inj {n m : Nat} (hn : n < 2 ^ 64) (hm : m < 2 ^ 64) (h : eightL n = eightL m) : n = m := by
  unfold eightL at h
  simp only [List.cons.injEq, and_true, ← UInt8.toNat_inj, UInt8.toNat_ofNat'] at h
  obtain ⟨h7, h6, h5, h4, h3, h2, h1, h0⟩ := h
  simp only [Nat.reducePow] at *
  omega
theorem eightB_inj {n m : Nat} (hn : n < 2 ^ 64) (hm : m < 2 ^ 64) (h : eightB n = eightB m) : n = m := by
  unfold eightB at h
  injection h with h
  injection h with h
  exact eightL_inj hn hm h
theorem sgnB_inj {n m : Nat} (hn : n < 2 ^ 64) (hm : m < 2 ^ 64) (h : sgnB n = sgnB m) : n = m := by
  unfold sgnB at h
  injection h with h
  injection h with h
  injection h with _ h
  exact eightL_inj hn hm h
theorem eightB_size (n : Nat) : (eightB n).size = 8 := rfl
theorem sgnB_size (n : Nat) : (sgnB n).size = 9 := rfl
theorem sgnB_cat (n : Nat) : (⟨#[115]⟩ : ByteArray) ++ eightB n = sgnB n := by
  apply ByteArray.ext
  simp [sgnB, eightB, ByteArray.data_append]
end Go.Proofs.YtocphdikppeijaaGreat
