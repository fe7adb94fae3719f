/- What a kind asks of numbers and texts. -/
import Derived.Test.YtocphdikppeijaaGreatLy05
import Derived.Test.YtocphdikppeijaaGreatLy04
namespace Go.Proofs.YtocphdikppeijaaGreat
open Go.RowKit
set_option linter.unusedVariables false
set_option linter.unusedSimpArgs false

def fitsN (b : Bd) (s : Sh) : Bool := decide (0 ≤ b.view ∧ b.view ≤ 1048576) && decide (0 ≤ b.seq ∧ b.seq ≤ 1073741824) && (b.seq.tmod s.every == 0) && decide (0 ≤ b.client ∧ b.client ≤ s.client) && decide (0 ≤ b.stamp ∧ b.stamp ≤ 1099511627776)
def fitsT (b : Bd) (s : Sh) : Bool := decide (b.digest.size ≤ 32) && decide (b.text.size ≤ s.text) && decide (b.list.length ≤ s.list) && b.list.all sgOk

set_option maxHeartbeats 1000000 in
theorem fitsNumbers_calls (b : Bd) (lv : Value) (s : Sh) (w : World) (hev : 1 ≤ s.every ∧ s.every ≤ 4) :
    Calls Tryz.prog 111 #[b.val lv, s.val] w fun e w' => e = .returned (.bool (fitsN b s)) ∧ Below w.heap.size w w' := by
  unfold Bd.val Sh.val fitsN
  have w1 := within_calls b.view 1048576
  have w2 := within_calls b.seq 1073741824
  have w3 := within_calls b.client s.client
  have w4 := within_calls b.stamp 1099511627776
  have hev0 : ¬ (s.every : Int) = 0 := by omega
  have hev1 : ¬ (s.every : Int) = -1 := by omega
  cases e1 : decide (0 ≤ b.view ∧ b.view ≤ 1048576) with
  | false =>
    rw [e1] at w1
    have W1 : Hid _ := w1
    clear w1 w2 w3 w4 e1
    go_enter Tryz.func111, Tryz.ntmps111
    go_wp2_with fail
    refine (W1.out _).mono ?_
    rintro e wa ⟨rfl, rfl⟩
    go_wp2
    go_ret
    exact ⟨rfl, by go_grown⟩
  | true =>
    rw [e1] at w1
    have W1 : Hid _ := w1
    clear w1 e1
    cases e2 : decide (0 ≤ b.seq ∧ b.seq ≤ 1073741824) with
    | false =>
      rw [e2] at w2
      have W2 : Hid _ := w2
      clear w2 w3 w4 e2
      go_enter Tryz.func111, Tryz.ntmps111
      go_wp2_with fail
      refine (W1.out _).mono ?_
      rintro e wa ⟨rfl, rfl⟩
      go_wp2_with fail
      refine (W2.out _).mono ?_
      rintro e wa ⟨rfl, rfl⟩
      go_wp2
      go_ret
      exact ⟨rfl, by go_grown⟩
    | true =>
      have h2 : 0 ≤ b.seq ∧ b.seq ≤ 1073741824 := of_decide_eq_true e2
      rw [e2] at w2
      have W2 : Hid _ := w2
      have hmod : wrap64 (b.seq.tmod s.every) = b.seq.tmod s.every := by
        have : b.seq.tmod s.every = b.seq % s.every := Int.tmod_eq_emod_of_nonneg h2.1
        have h3 := Int.emod_nonneg b.seq hev0
        have h4 := Int.emod_lt_of_pos b.seq (show (0 : Int) < s.every by omega)
        rw [this]; unfold wrap64; omega
      clear w2 e2 h2
      cases h3 : (b.seq.tmod s.every == 0) with
      | false =>
        clear w3 w4
        go_enter Tryz.func111, Tryz.ntmps111
        go_wp2_with fail
        refine (W1.out _).mono ?_
        rintro e wa ⟨rfl, rfl⟩
        go_wp2_with fail
        refine (W2.out _).mono ?_
        rintro e wa ⟨rfl, rfl⟩
        go_wp2
        go_ret
        exact ⟨rfl, by go_grown⟩
      | true =>
        cases e3 : decide (0 ≤ b.client ∧ b.client ≤ (s.client : Int)) with
        | false =>
          rw [e3] at w3
          have W3 : Hid _ := w3
          clear w3 w4 e3
          go_enter Tryz.func111, Tryz.ntmps111
          go_wp2_with fail
          refine (W1.out _).mono ?_
          rintro e wa ⟨rfl, rfl⟩
          go_wp2_with fail
          refine (W2.out _).mono ?_
          rintro e wa ⟨rfl, rfl⟩
          go_wp2_with fail
          refine (W3.out _).mono ?_
          rintro e wa ⟨rfl, rfl⟩
          go_wp2
          go_ret
          exact ⟨rfl, by go_grown⟩
        | true =>
          rw [e3] at w3
          have W3 : Hid _ := w3
          clear w3 e3
          cases e4 : decide (0 ≤ b.stamp ∧ b.stamp ≤ 1099511627776) with
          | false =>
            rw [e4] at w4
            have W4 : Hid _ := w4
            clear w4 e4
            go_enter Tryz.func111, Tryz.ntmps111
            go_wp2_with fail
            refine (W1.out _).mono ?_
            rintro e wa ⟨rfl, rfl⟩
            go_wp2_with fail
            refine (W2.out _).mono ?_
            rintro e wa ⟨rfl, rfl⟩
            go_wp2_with fail
            refine (W3.out _).mono ?_
            rintro e wa ⟨rfl, rfl⟩
            go_wp2_with fail
            refine (W4.out _).mono ?_
            rintro e wa ⟨rfl, rfl⟩
            go_wp2
            go_ret
            exact ⟨rfl, by go_grown⟩
          | true =>
            rw [e4] at w4
            have W4 : Hid _ := w4
            clear w4 e4
            go_enter Tryz.func111, Tryz.ntmps111
            go_wp2_with fail
            refine (W1.out _).mono ?_
            rintro e wa ⟨rfl, rfl⟩
            go_wp2_with fail
            refine (W2.out _).mono ?_
            rintro e wa ⟨rfl, rfl⟩
            go_wp2_with fail
            refine (W3.out _).mono ?_
            rintro e wa ⟨rfl, rfl⟩
            go_wp2_with fail
            refine (W4.out _).mono ?_
            rintro e wa ⟨rfl, rfl⟩
            go_wp2
            go_ret
            exact ⟨rfl, by go_grown⟩

set_option maxHeartbeats 1000000 in
theorem fitsTexts_calls (b : Bd) (p : Option Addr) (c : Nat) (s : Sh) (w : World) (h1 : b.digest.size ≤ maxLen) (h2 : b.text.size ≤ maxLen) (h3 : b.list.length < 9223372036854775807) (h4 : s.text ≤ 1048576) (h5 : s.list ≤ 64) (hl : Sgs w (.slice p b.list.length c) b.list) :
    Calls Tryz.prog 112 #[b.val (.slice p b.list.length c), s.val] w fun e w' => e = .returned (.bool (fitsT b s)) ∧ Below w.heap.size w w' := by
  have hall := fun wx (hb : Below w.heap.size w wx) => areSigned_calls (.slice p b.list.length c) b.list wx (hl.below hb) h3
  have HA : Hid _ := hall
  clear hall hl
  unfold maxLen at h1 h2
  unfold Bd.val Sh.val fitsT
  by_cases g1 : b.digest.size ≤ 32
  · have e1 : decide ((b.digest.size : Int) ≤ 32) = true := by simp only [decide_eq_true_eq]; omega
    have d1 : decide (b.digest.size ≤ 32) = true := by simpa using g1
    rw [d1]
    by_cases g2 : b.text.size ≤ s.text
    · have e2 : decide ((b.text.size : Int) ≤ s.text) = true := by simp only [decide_eq_true_eq]; omega
      have d2 : decide (b.text.size ≤ s.text) = true := by simpa using g2
      rw [d2]
      by_cases g3 : b.list.length ≤ s.list
      · have e3 : decide ((b.list.length : Int) ≤ s.list) = true := by simp only [decide_eq_true_eq]; omega
        have d3 : decide (b.list.length ≤ s.list) = true := by simpa using g3
        rw [d3]
        clear d1 d2 d3
        go_enter Tryz.func112, Tryz.ntmps112
        go_wp2_with fail
        refine (HA.out _ (by go_grown)).mono ?_
        rintro e wa ⟨rfl, hb⟩
        go_wp2
        go_ret
        exact ⟨rfl, (show Below w.heap.size w _ by go_grown).trans (hb.mono (by simp; omega))⟩
      · have e3 : decide ((b.list.length : Int) ≤ s.list) = false := by simp only [decide_eq_false_iff_not]; omega
        have d3 : decide (b.list.length ≤ s.list) = false := by simpa using g3
        rw [d3]
        clear d1 d2 d3
        go_enter Tryz.func112, Tryz.ntmps112
        go_wp2
        go_ret
        exact ⟨rfl, by go_grown⟩
    · have e2 : decide ((b.text.size : Int) ≤ s.text) = false := by simp only [decide_eq_false_iff_not]; omega
      have d2 : decide (b.text.size ≤ s.text) = false := by simpa using g2
      rw [d2]
      clear d1 d2
      go_enter Tryz.func112, Tryz.ntmps112
      go_wp2
      go_ret
      exact ⟨rfl, by go_grown⟩
  · have e1 : decide ((b.digest.size : Int) ≤ 32) = false := by simp only [decide_eq_false_iff_not]; omega
    have d1 : decide (b.digest.size ≤ 32) = false := by simpa using g1
    rw [d1]
    clear d1
    go_enter Tryz.func112, Tryz.ntmps112
    go_wp2
    go_ret
    exact ⟨rfl, by go_grown⟩
end Go.Proofs.YtocphdikppeijaaGreat

namespace Go.Proofs.YtocphdikppeijaaGreat
open Go.RowKit
set_option linter.unusedVariables false
set_option linter.unusedSimpArgs false

def badBits (b : Bd) (s : Sh) : Bool := bits .andNot .i64 (flds b) s.may != 0 || bits .andNot .i64 s.must (flds b) != 0
def right (b : Bd) : Int :=
  match shape b.kind with
  | none => 13
  | some s => if badBits b s || !fitsN b s || !fitsT b s then 14 else 0

theorem shape_bounds {k : Int} {s : Sh} (h : shape k = some s) : (1 ≤ s.every ∧ s.every ≤ 4) ∧ s.text ≤ 1048576 ∧ s.list ≤ 64 := by
  by_cases hk : 1 ≤ k ∧ k ≤ 13
  · obtain ⟨n, rfl⟩ := Int.eq_ofNat_of_zero_le (show 0 ≤ k by omega)
    have hn : n = 1 ∨ n = 2 ∨ n = 3 ∨ n = 4 ∨ n = 5 ∨ n = 6 ∨ n = 7 ∨ n = 8 ∨ n = 9 ∨ n = 10 ∨ n = 11 ∨ n = 12 ∨ n = 13 := by omega
    rcases hn with rfl | rfl | rfl | rfl | rfl | rfl | rfl | rfl | rfl | rfl | rfl | rfl | rfl <;> (simp [shape, shapeN] at h; subst h; decide)
  · rw [shape_other k hk] at h; cases h

theorem Sgs.len {w : World} {v : Value} {l : List Sg} (h : Sgs w v l) : ∃ p c, v = .slice p l.length c := by
  rcases h with ⟨⟨pz, cz, rfl⟩, rfl⟩ | ⟨b, off, cap, hv, _⟩
  · exact ⟨pz, cz, rfl⟩
  · exact ⟨_, _, hv⟩

set_option maxHeartbeats 2000000 in
theorem right_calls (b : Bd) (lv : Value) (w : World) (h1 : b.digest.size ≤ maxLen) (h2 : b.text.size ≤ maxLen) (h3 : b.list.length < 9223372036854775807) (hl : Sgs w lv b.list) :
    Calls Tryz.prog 81 #[b.val lv] w fun e w' => e = .returned (.int .i64 (right b)) ∧ Below w.heap.size w w' := by
  have hnot : ∀ (x : Bool) (w : World), (Op.unary .not (.bool x)).run Tryz.prog w = .ok (.bool (!x)) w := fun _ _ => rfl
  obtain ⟨p, c, rfl⟩ := hl.len
  have hnew := bdAt_new w b (.slice p b.list.length c) 54
  unfold right
  cases hs : shape b.kind with
  | none =>
    have hno : ¬ (1 ≤ b.kind ∧ b.kind ≤ 13) := by
      intro hk
      obtain ⟨n, hn⟩ := Int.eq_ofNat_of_zero_le (show 0 ≤ b.kind by omega)
      rw [hn] at hs hk
      have hn : n = 1 ∨ n = 2 ∨ n = 3 ∨ n = 4 ∨ n = 5 ∨ n = 6 ∨ n = 7 ∨ n = 8 ∨ n = 9 ∨ n = 10 ∨ n = 11 ∨ n = 12 ∨ n = 13 := by omega
      rcases hn with rfl | rfl | rfl | rfl | rfl | rfl | rfl | rfl | rfl | rfl | rfl | rfl | rfl <;> simp [shape, shapeN] at hs
    have hsh := fun wx => shapeOf_none b.kind wx hno
    have HS : Hid _ := hsh
    clear hsh hs hno
    unfold Bd.val
    go_enter Tryz.func81, Tryz.ntmps81
    go_wp2_with fail
    refine (HS.out _).mono ?_
    rintro e w1 ⟨rfl, hb⟩
    unfold Sh.val
    go_wp2
    go_ret
    refine ⟨rfl, ?_⟩
    have hz := hb.size
    simp at hz
    exact ((show Below w.heap.size w _ by go_grown).trans (hb.mono (by simp))).alloc (by omega) _
  | some s =>
    obtain ⟨hev, htx, hli⟩ := shape_bounds hs
    have hsh := fun wx => shapeOf_calls b.kind s wx hs
    have HS : Hid _ := hsh
    have hfo := fun wx => fieldsOf_calls b p c wx h3
    have HF : Hid _ := hfo
    have hfn := fun wx => fitsNumbers_calls b (.slice p b.list.length c) s wx hev
    have HN : Hid _ := hfn
    have hft := fun wx (hb : Below w.heap.size w wx) => fitsTexts_calls b p c s wx h1 h2 h3 htx hli (hl.below hb)
    have HT : Hid _ := hft
    clear hsh hs hfo hfn hft hl
    unfold badBits
    unfold Bd.val
    go_enter Tryz.func81, Tryz.ntmps81
    go_wp2_with fail
    refine (HS.out _).mono ?_
    rintro e w1 ⟨rfl, hb⟩
    unfold Sh.val
    have hz := hb.size
    simp at hz
    obtain ⟨a0, a1, a2, a3, a4, a5, a6, a7, a8⟩ := hnew.below hb
    have hB1 : Below w.heap.size w w1 := (show Below w.heap.size w _ by go_grown).trans (hb.mono (by simp))
    go_wp2_with fail
    refine (HF.out _).mono ?_
    rintro e w2 ⟨rfl, hb2⟩
    have hz2 := hb2.size
    simp at hz2
    have hA1 := hnew.below hb
    have hA2 := (hA1.below ((Below.refl _ _).alloc (Nat.le_refl _) _)).below hb2
    obtain ⟨b0, b1, b2, b3, b4, b5, b6, b7, b8⟩ := hA2
    have s0 : w2.cell? ⟨w1.heap.size, 0, none⟩ = some (.int .i64 s.may) := by rw [hb2.cell (p := ⟨w1.heap.size, 0, none⟩) (by simp)]; simp [go_sem]
    have s1 : w2.cell? ⟨w1.heap.size, 1, none⟩ = some (.int .i64 s.must) := by rw [hb2.cell (p := ⟨w1.heap.size, 1, none⟩) (by simp)]; simp [go_sem]
    have s2 : w2.cell? ⟨w1.heap.size, 2, none⟩ = some (.int .i64 s.client) := by rw [hb2.cell (p := ⟨w1.heap.size, 2, none⟩) (by simp)]; simp [go_sem]
    have s3 : w2.cell? ⟨w1.heap.size, 3, none⟩ = some (.int .i64 s.every) := by rw [hb2.cell (p := ⟨w1.heap.size, 3, none⟩) (by simp)]; simp [go_sem]
    have s4 : w2.cell? ⟨w1.heap.size, 4, none⟩ = some (.int .i64 s.text) := by rw [hb2.cell (p := ⟨w1.heap.size, 4, none⟩) (by simp)]; simp [go_sem]
    have s5 : w2.cell? ⟨w1.heap.size, 5, none⟩ = some (.int .i64 s.list) := by rw [hb2.cell (p := ⟨w1.heap.size, 5, none⟩) (by simp)]; simp [go_sem]
    have hB2 : Below w.heap.size w w2 := (hB1.alloc (by omega) _).trans (hb2.mono (by simp; omega))
    clear hA1 hnew hb hb2 hB1 a0 a1 a2 a3 a4 a5 a6 a7 a8
    cases hA : (bits .andNot .i64 (flds b) s.may != 0) with
    | true =>
      go_wp2
      all_goals go_ret
      all_goals exact ⟨rfl, hB2⟩
    | false =>
      cases hC : (bits .andNot .i64 s.must (flds b) != 0) with
      | true =>
        go_wp2
        all_goals go_ret
        all_goals exact ⟨rfl, hB2⟩
      | false =>
        cases hN : fitsN b s with
        | false =>
          rw [hN] at HN
          go_wp2_with fail
          refine (HN.out _).mono ?_
          rintro e w3 ⟨rfl, hb3⟩
          go_wp2
          all_goals go_ret
          all_goals exact ⟨rfl, hB2.trans (hb3.mono (by omega))⟩
        | true =>
          rw [hN] at HN
          go_wp2_with fail
          refine (HN.out _).mono ?_
          rintro e w3 ⟨rfl, hb3⟩
          have hB3 := hB2.trans (hb3.mono (show w.heap.size ≤ _ by omega))
          have hA3 := (show BdAt w2 w.heap.size b (.slice p b.list.length c) from ⟨b0, b1, b2, b3, b4, b5, b6, b7, b8⟩).below hb3
          obtain ⟨q0, q1, q2, q3, q4, q5, q6, q7, q8⟩ := hA3
          have t0 := (hb3.cell (p := ⟨w1.heap.size, 0, none⟩) (by simp; omega)).trans s0
          have t1 := (hb3.cell (p := ⟨w1.heap.size, 1, none⟩) (by simp; omega)).trans s1
          have t2 := (hb3.cell (p := ⟨w1.heap.size, 2, none⟩) (by simp; omega)).trans s2
          have t3 := (hb3.cell (p := ⟨w1.heap.size, 3, none⟩) (by simp; omega)).trans s3
          have t4 := (hb3.cell (p := ⟨w1.heap.size, 4, none⟩) (by simp; omega)).trans s4
          have t5 := (hb3.cell (p := ⟨w1.heap.size, 5, none⟩) (by simp; omega)).trans s5
          clear b0 b1 b2 b3 b4 b5 b6 b7 s0 s1 s2 s3 s4 s5
          cases hT : fitsT b s with
          | false =>
            rw [hT] at HT
            go_wp2_with fail
            refine (HT.out _ hB3).mono ?_
            rintro e w4 ⟨rfl, hb4⟩
            go_wp2
            all_goals go_ret
            all_goals exact ⟨rfl, hB3.trans (hb4.mono (by have := hb3.size; omega))⟩
          | true =>
            rw [hT] at HT
            go_wp2_with fail
            refine (HT.out _ hB3).mono ?_
            rintro e w4 ⟨rfl, hb4⟩
            go_wp2
            all_goals go_ret
            all_goals exact ⟨rfl, hB3.trans (hb4.mono (by have := hb3.size; omega))⟩
end Go.Proofs.YtocphdikppeijaaGreat

namespace Go.Proofs.YtocphdikppeijaaGreat
open Go.RowKit
set_option linter.unusedVariables false
set_option linter.unusedSimpArgs false

def sgB (m : Sg) : List UInt8 := enc m.frm.toNat ++ (txtB m.body ++ txtB m.sig)
def sgsB (l : List Sg) : List UInt8 := l.flatMap sgB

theorem sgB_len (m : Sg) (h : sgOk m = true) : (sgB m).length ≤ 1048700 := by
  unfold sgOk at h
  simp at h
  unfold sgB
  have h1 := enc_le m.frm.toNat
  have h2 := txtB_len m.body
  have h3 := txtB_len m.sig
  rw [List.length_append, List.length_append]; omega

set_option maxHeartbeats 1000000 in
theorem laySigned_calls (base : Nat) (v : Value) (len : Nat) (xs : List Value) (m : Sg) (w : World) (hm : sgOk m = true)
    (hown : w.ownsRow base 5 1 v len xs) (hlen : len ≤ 100000000000) (hbase : base ≤ w.heap.size) :
    Calls Tryz.prog 113 #[v, m.val] w fun e w' => ∃ v', e = .returned v' ∧ w'.ownsRow base 5 1 v' (len + (sgB m).length) (xs ++ Lib.byteCells (sgB m)) ∧ Below base w w' ∧ Kp w w' := by
  have hok := hm
  unfold sgOk at hok
  simp only [Bool.and_eq_true, decide_eq_true_eq] at hok
  obtain ⟨⟨⟨hf0, hf1⟩, hb⟩, hs⟩ := hok
  obtain ⟨f, b, g⟩ := m
  simp only at hf0 hf1 hb hs
  obtain ⟨n, rfl⟩ := Int.eq_ofNat_of_zero_le hf0
  have hbox : (w.alloc (.cells #[.int .i64 (n : Int), .string b, .string g] 49)).heap[w.heap.size]? = some (.cells #[.int .i64 (n : Int), .string b, .string g] 49) := heap_alloc_new w _
  have hB0 : Below base w (w.alloc (.cells #[.int .i64 (n : Int), .string b, .string g] 49)) := (Below.refl _ _).alloc hbase _
  have hK0 : Kp w (w.alloc (.cells #[.int .i64 (n : Int), .string b, .string g] 49)) := Kp.of_below ((Below.refl _ _).alloc (Nat.le_refl _) _)
  have el := enc_le n
  have tl := txtB_len b
  have h1 := layInt_calls base v len xs n (w.alloc (.cells #[.int .i64 (n : Int), .string b, .string g] 49)) (by omega) (hown.alloc _) (by omega) (by simp; omega)
  unfold Sg.val
  have HB : Hid _ := hbox
  clear hbox
  go_enter Tryz.func113, Tryz.ntmps113
  go_wp2_with fail
  refine h1.mono ?_
  rintro e w1 ⟨v1, rfl, o1, b1, k1⟩
  have x1 := k1.cell (o := 0) HB.out (by decide)
  have c1 := cellOf (o := 1) x1 rfl
  have z1 := b1.size
  simp at z1
  have X1 : Hid _ := x1
  clear x1
  go_wp2_with fail
  refine (layText_calls base v1 _ _ b _ (by omega) o1 (by omega) (by omega)).mono ?_
  rintro e w2 ⟨v2, rfl, o2, b2, k2⟩
  have x2 := k2.cell (o := 0) X1.out (by decide)
  have c2 := cellOf (o := 2) x2 rfl
  have z2 := b2.size
  clear x2 c1
  go_wp2_with fail
  refine (layText_calls base v2 _ _ g _ (by omega) o2 ?_ (by omega)).mono ?_
  · unfold txtB at tl; omega
  rintro e w3 ⟨v3, rfl, o3, b3, k3⟩
  go_wp2
  go_ret
  refine ⟨v3, rfl, ?_, ((hB0.trans b1).trans b2).trans b3, ((hK0.trans k1).trans k2).trans k3⟩
  have e1 : sgB ⟨(n : Int), b, g⟩ = enc n ++ ((enc b.size ++ b.data.toList) ++ (enc g.size ++ g.data.toList)) := by simp [sgB, txtB]
  rw [e1]
  simp only [byteCells_append, List.length_append, List.append_assoc] at o3 ⊢
  simpa only [Nat.add_assoc] using o3
end Go.Proofs.YtocphdikppeijaaGreat
