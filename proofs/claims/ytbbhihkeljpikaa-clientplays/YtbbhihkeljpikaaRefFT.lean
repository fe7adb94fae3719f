/- The document's answer: which messages may be. -/
import Derived.Test.YtbbhihkeljpikaaOfF
import Derived.Test.YtbbhihkeljpikaaRef1
import Derived.Test.YtbbhihkeljpikaaSgF
namespace Go.Proofs.Ytbbhihkeljpikaa
open Go.RowKit
set_option linter.unusedVariables false
set_option linter.unusedSimpArgs false

theorem fits_ref (m : Sg) (w : World) (h1 : m.body.size ≤ maxLen) (h2 : m.sig.size ≤ maxLen) :
    Calls Try.prog 32 #[m.val] w fun e w' => e = .returned (.bool (sgOk m)) ∧ Below w.heap.size w w' := by
  obtain ⟨f, b, g⟩ := m
  simp only at h1 h2
  unfold maxLen at h1 h2
  unfold sgOk Sg.val
  simp only
  by_cases e0 : 0 ≤ f
  · have d0 : decide (0 ≤ f) = true := by simpa using e0
    by_cases e1 : f ≤ 255
    · have d1 : decide (f ≤ 255) = true := by simpa using e1
      by_cases hb : b.size ≤ 1048576
      · have hd : decide ((b.size : Int) ≤ 1048576) = true := by simp only [decide_eq_true_eq]; omega
        go_enter Try.func32, Try.ntmps32
        go_wp2
        go_ret
        exact ⟨by simp [e0, e1, hb]; omega, by go_grown⟩
      · have hd : decide ((b.size : Int) ≤ 1048576) = false := by simp only [decide_eq_false_iff_not]; omega
        go_enter Try.func32, Try.ntmps32
        go_wp2
        go_ret
        exact ⟨by simp [e0, e1, hb], by go_grown⟩
    · have d1 : decide (f ≤ 255) = false := by simpa using e1
      go_enter Try.func32, Try.ntmps32
      go_wp2
      go_ret
      exact ⟨by simp [e0, e1], by go_grown⟩
  · have d0 : decide (0 ≤ f) = false := by simpa using e0
    go_enter Try.func32, Try.ntmps32
    go_wp2
    go_ret
    exact ⟨by simp [e0], by go_grown⟩

end Go.Proofs.Ytbbhihkeljpikaa

namespace Go.Proofs.Ytbbhihkeljpikaa
open Go.RowKit
set_option linter.unusedVariables false
set_option linter.unusedSimpArgs false

theorem rdText_err {s : ByteArray} {a : Nat} {er : Int} (ha : a ≤ s.size) (h : rdText s a = .error er) : er ≠ 0 := by
  rw [rdText_list s a ha] at h
  cases e : rdTP (s.data.toList.drop a) with
  | error er' => rw [e] at h; simp only [shiftR, Except.error.injEq] at h; subst h; exact nz_text _ _ e
  | ok p => rw [e] at h; cases h

/-- What the document's reading of a message gives. -/
def SgGot (r : Except Int (Sg × Nat)) (e : Ending) : Prop :=
  match r with
  | .ok (m, nx) => e = .returned (.tuple #[m.val, .int .i64 nx, .int .i64 0])
  | .error er => ∃ m : Sg, e = .returned (.tuple #[m.val, .int .i64 0, .int .i64 er])

set_option maxRecDepth 100000 in
set_option maxHeartbeats 2000000 in
theorem signed_ref (s : ByteArray) (a : Nat) (w : World) (hs : s.size ≤ maxLen) (ha : a ≤ s.size) :
    Calls Try.prog 31 #[.string s, .int .i64 a] w fun e w' => SgGot (rdSg s a) e ∧ Below w.heap.size w w' := by
  have X0 := blk_new w w.heap.size #[.int .i64 0, .string ⟨#[]⟩, .string ⟨#[]⟩] 62 rfl
  have B0 : Below w.heap.size w (w.alloc (.cells #[.int .i64 0, .string ⟨#[]⟩, .string ⟨#[]⟩] 62)) := (Below.refl _ _).alloc (Nat.le_refl _) _
  have y0 := X0.cell (o := 0) rfl
  have y1 := X0.cell (o := 1) rfl
  have y2 := X0.cell (o := 2) rfl
  have g0 := X0.frozen (o := 0)
  have g1 := X0.frozen (o := 1)
  have g2 := X0.frozen (o := 2)
  have hi := fun wx => int_ref s a wx hs ha
  have HI : Hid _ := hi
  clear hi
  unfold rdSg
  cases h1 : rdInt s a with
  | error er =>
    have hne : (er != 0) = true := by simpa using rdInt_err h1
    rw [h1] at HI
    simp only [got] at HI
    go_enter Try.func31, Try.ntmps31
    go_wp2_with fail
    refine (HI.out _).mono ?_
    rintro e w1 ⟨rfl, rfl⟩
    go_wp2
    refine bodyPost_ret (v := .tuple #[zeroSgR.val, .int .i64 0, .int .i64 er]) (by simp [results, Try.results31, go_sem, zeroSgR, Sg.val]) rfl ⟨⟨zeroSgR, rfl⟩, by go_grown⟩
  | ok p1 =>
    obtain ⟨n, a1⟩ := p1
    have l1 := rdInt_le h1
    rw [h1] at HI
    simp only [got] at HI
    have ht := fun wx => text_ref s a1 wx hs l1.2.1
    have HT : Hid _ := ht
    clear h1 ht
    simp only
    cases h2 : rdText s a1 with
    | error er =>
      have hne : (er != 0) = true := by simpa using rdText_err l1.2.1 h2
      rw [h2] at HT
      simp only [gotT] at HT
      go_enter Try.func31, Try.ntmps31
      go_wp2_with fail
      refine (HI.out _).mono ?_
      rintro e w1 ⟨rfl, rfl⟩
      go_wp2_with fail
      refine (HT.out _).mono ?_
      rintro e w2 ⟨rfl, rfl⟩
      go_wp2
      refine bodyPost_ret (v := .tuple #[zeroSgR.val, .int .i64 0, .int .i64 er]) (by simp [results, Try.results31, go_sem, zeroSgR, Sg.val]) rfl ⟨⟨zeroSgR, rfl⟩, by go_grown⟩
    | ok p2 =>
      obtain ⟨t, a2⟩ := p2
      have l2 := rdText_le h2
      rw [h2] at HT
      simp only [gotT] at HT
      have hu := fun wx => text_ref s a2 wx hs l2.2.1
      have HU : Hid _ := hu
      clear h2 hu
      simp only
      cases h3 : rdText s a2 with
      | error er =>
        rw [h3] at HU
        simp only [gotT] at HU
        go_enter Try.func31, Try.ntmps31
        go_wp2_with fail
        refine (HI.out _).mono ?_
        rintro e w1 ⟨rfl, rfl⟩
        go_wp2_with fail
        refine (HT.out _).mono ?_
        rintro e w2 ⟨rfl, rfl⟩
        go_wp2_with fail
        refine (HU.out _).mono ?_
        rintro e w3 ⟨rfl, rfl⟩
        go_wp2
        refine bodyPost_ret (v := .tuple #[Sg.val ⟨(n : Int), t, ⟨#[]⟩⟩, .int .i64 0, .int .i64 er]) (by simp [results, Try.results31, go_sem, Sg.val]) rfl ⟨⟨⟨(n : Int), t, ⟨#[]⟩⟩, rfl⟩, by go_grown⟩
      | ok p3 =>
        obtain ⟨u, a3⟩ := p3
        rw [h3] at HU
        simp only [gotT] at HU
        go_enter Try.func31, Try.ntmps31
        go_wp2_with fail
        refine (HI.out _).mono ?_
        rintro e w1 ⟨rfl, rfl⟩
        go_wp2_with fail
        refine (HT.out _).mono ?_
        rintro e w2 ⟨rfl, rfl⟩
        go_wp2_with fail
        refine (HU.out _).mono ?_
        rintro e w3 ⟨rfl, rfl⟩
        go_wp2
        refine bodyPost_ret (v := .tuple #[Sg.val ⟨(n : Int), t, u⟩, .int .i64 a3, .int .i64 0]) (by simp [results, Try.results31, go_sem, Sg.val]) rfl ⟨rfl, by go_grown⟩

theorem sgOut0 {w W0 : World} {a0 a1 a2 c0 c1 c2 : Value} (X : Blk W0 w.heap.size #[a0, a1, a2] 62) (B : Below w.heap.size w W0) :
    ∃ W, ((W0.setCell ⟨w.heap.size, 0, none⟩ c0).setCell ⟨w.heap.size, 1, none⟩ c1).setCell ⟨w.heap.size, 2, none⟩ c2 = W ∧ Blk W w.heap.size #[c0, c1, c2] 62 ∧ Below w.heap.size w W := by
  refine ⟨_, rfl, ?_, ((B.setCell (p := ⟨w.heap.size, 0, none⟩) (Nat.le_refl _) _).setCell (p := ⟨w.heap.size, 1, none⟩) (Nat.le_refl _) _).setCell (p := ⟨w.heap.size, 2, none⟩) (Nat.le_refl _) _⟩
  have hx := ((X.set 0 c0).set 1 c1).set 2 c2
  simpa using hx

theorem sgOut {w W0 : World} {d : Obj} {a0 a1 a2 c0 c1 c2 : Value} (X : Blk W0 w.heap.size #[a0, a1, a2] 62) (B : Below w.heap.size w W0) :
    ∃ W, (((W0.setCell ⟨w.heap.size, 0, none⟩ c0).setCell ⟨w.heap.size, 1, none⟩ c1).setCell ⟨w.heap.size, 2, none⟩ c2).alloc d = W ∧ Blk W w.heap.size #[c0, c1, c2] 62 ∧ Below w.heap.size w W := by
  obtain ⟨W, h1, h2, h3⟩ := sgOut0 (c0 := c0) (c1 := c1) (c2 := c2) X B
  exact ⟨_, rfl, by rw [h1]; exact h2.alloc d, by rw [h1]; exact h3.alloc (Nat.le_of_lt h2.lt) d⟩

set_option maxRecDepth 100000 in
set_option maxHeartbeats 2000000 in
theorem ofSigned_ref (s : ByteArray) (w : World) (hs : s.size ≤ maxLen) :
    Calls Try.prog 18 #[.string s] w fun e w' => e = .returned (.tuple (sgAns (ofSgR s))) ∧ Below w.heap.size w w' := by
  have hnot : ∀ (x : Bool) (w : World), (Op.unary .not (.bool x)).run Try.prog w = .ok (.bool (!x)) w := fun _ _ => rfl
  have hs' := hs
  unfold maxLen at hs'
  by_cases hbig : 2097152 < s.size
  · have hfin : ofSgR s = .error 4 := by unfold ofSgR; rw [if_pos hbig]
    have hd : decide ((2097152 : Int) < (s.size : Int)) = true := by simp only [decide_eq_true_eq]; omega
    rw [hfin]
    go_enter Try.func18, Try.ntmps18
    go_wp2
    refine bodyPost_ret (v := .tuple #[zeroSgR.val, .int .i64 4]) (by simp [results, Try.results18, go_sem, zeroSgR, Sg.val]) rfl ⟨rfl, by go_grown⟩
  · have hd : decide ((2097152 : Int) < (s.size : Int)) = false := by simp only [decide_eq_false_iff_not]; omega
    have hsg := signed_ref s 0 (w.alloc (.cells #[.int .i64 0, .string ⟨#[]⟩, .string ⟨#[]⟩] 62)) hs (Nat.zero_le _)
    have X0 := blk_new w w.heap.size #[.int .i64 0, .string ⟨#[]⟩, .string ⟨#[]⟩] 62 rfl
    cases hr : rdSg s 0 with
    | error er =>
      have hne : (er != 0) = true := by
        have h0 : er ≠ 0 := by
          have := rdSg_list s 0 (Nat.zero_le _)
          rw [hr] at this
          cases e : rdSgL (s.data.toList.drop 0) with
          | error er' => rw [e] at this; simp only [shiftR, Except.error.injEq] at this; subst this; exact nz_sg _ _ e
          | ok p => rw [e] at this; cases this
        simpa using h0
      have hfin : ofSgR s = .error er := by unfold ofSgR; rw [if_neg hbig, hr]
      rw [hfin]
      rw [hr] at hsg
      clear hr hfin
      go_enter Try.func18, Try.ntmps18
      go_wp2_with fail
      refine hsg.mono ?_
      rintro e w1 ⟨⟨m, rfl⟩, b1⟩
      have X1 := X0.below b1
      have d0 := X1.cell (o := 0) rfl
      have f0 := X1.frozen (o := 0)
      have d1 := X1.cell (o := 1) rfl
      have f1 := X1.frozen (o := 1)
      have d2 := X1.cell (o := 2) rfl
      have f2 := X1.frozen (o := 2)
      have hlt := X1.lt
      have hz := b1.size
      simp at hz
      have hnw : ¬ w.heap.size = w1.heap.size := by omega
      have hb : Below w.heap.size w w1 := (show Below w.heap.size w _ by go_grown).trans (b1.mono (by simp))
      unfold Sg.val
      go_wp2
      obtain ⟨W, hW, XW, BW⟩ := sgOut (c0 := .int .i64 0) (c1 := .string ⟨#[]⟩) (c2 := .string ⟨#[]⟩) (d := .cells #[.int .i64 m.frm, .string m.body, .string m.sig] 62) X1 hb
      rw [hW]
      have z0 := XW.cell (o := 0) rfl
      have z1 := XW.cell (o := 1) rfl
      have z2 := XW.cell (o := 2) rfl
      exact bodyPost_ret (v := .tuple #[zeroSgR.val, .int .i64 er]) (by simp [results, Try.results18, go_sem, zeroSgR, Sg.val, z0, z1, z2]) rfl ⟨rfl, BW⟩
    | ok p =>
      obtain ⟨m, nx⟩ := p
      have hle := rdSg_le hr
      rw [hr] at hsg
      by_cases htail : nx < s.size
      · have hfin : ofSgR s = .error 12 := by unfold ofSgR; rw [if_neg hbig, hr]; simp only [htail, if_true]
        have hdt : decide ((nx : Int) < (s.size : Int)) = true := by simp only [decide_eq_true_eq]; omega
        rw [hfin]
        clear hr hfin
        go_enter Try.func18, Try.ntmps18
        go_wp2_with fail
        refine hsg.mono ?_
        rintro e w1 ⟨rfl, b1⟩
        have X1 := X0.below b1
        have d0 := X1.cell (o := 0) rfl
        have f0 := X1.frozen (o := 0)
        have d1 := X1.cell (o := 1) rfl
        have f1 := X1.frozen (o := 1)
        have d2 := X1.cell (o := 2) rfl
        have f2 := X1.frozen (o := 2)
        have hlt := X1.lt
        have hz := b1.size
        simp at hz
        have hnw : ¬ w.heap.size = w1.heap.size := by omega
        have hb : Below w.heap.size w w1 := (show Below w.heap.size w _ by go_grown).trans (b1.mono (by simp))
        unfold Sg.val
        go_wp2
        obtain ⟨W, hW, XW, BW⟩ := sgOut (c0 := .int .i64 0) (c1 := .string ⟨#[]⟩) (c2 := .string ⟨#[]⟩) (d := .cells #[.int .i64 m.frm, .string m.body, .string m.sig] 62) X1 hb
        rw [hW]
        have z0 := XW.cell (o := 0) rfl
        have z1 := XW.cell (o := 1) rfl
        have z2 := XW.cell (o := 2) rfl
        exact bodyPost_ret (v := .tuple #[zeroSgR.val, .int .i64 12]) (by simp [results, Try.results18, go_sem, zeroSgR, Sg.val, z0, z1, z2]) rfl ⟨rfl, BW⟩
      · have hdt : decide ((nx : Int) < (s.size : Int)) = false := by simp only [decide_eq_false_iff_not]; omega
        have hfr := fun wx => fits_ref m wx (Nat.le_trans hle.2.2.1 (by unfold maxLen; decide)) (Nat.le_trans hle.2.2.2.1 (by unfold maxLen; decide))
        have HF : Hid _ := hfr
        clear hfr
        cases hok : sgOk m with
        | false =>
          have hfin : ofSgR s = .error 14 := by unfold ofSgR; rw [if_neg hbig, hr]; simp only [htail, if_false, hok]; rfl
          rw [hfin]
          rw [hok] at HF
          clear hr hfin
          go_enter Try.func18, Try.ntmps18
          go_wp2_with fail
          refine hsg.mono ?_
          rintro e w1 ⟨rfl, b1⟩
          have X1 := X0.below b1
          have M1 := blk_new w1 w1.heap.size #[.int .i64 m.frm, .string m.body, .string m.sig] 62 rfl
          have hlt := X1.lt
          have X2 := X1.alloc (.cells #[.int .i64 m.frm, .string m.body, .string m.sig] 62)
          have hb : Below w.heap.size w w1 := (show Below w.heap.size w _ by go_grown).trans (b1.mono (by simp))
          have hb2 := hb.alloc (Nat.le_of_lt hlt) (.cells #[.int .i64 m.frm, .string m.body, .string m.sig] 62)
          unfold Sg.val
          go_wp2_with fail
          refine (HF.out _).mono ?_
          rintro e w2 ⟨rfl, b2⟩
          have X3 := X2.below b2
          have d0 := X3.cell (o := 0) rfl
          have f0 := X3.frozen (o := 0)
          have d1 := X3.cell (o := 1) rfl
          have f1 := X3.frozen (o := 1)
          have d2 := X3.cell (o := 2) rfl
          have f2 := X3.frozen (o := 2)
          have hb3 := hb2.trans (b2.mono (by simp; omega))
          go_wp2
          obtain ⟨W, hW, XW, BW⟩ := sgOut0 (c0 := .int .i64 0) (c1 := .string ⟨#[]⟩) (c2 := .string ⟨#[]⟩) X3 hb3
          rw [hW]
          have z0 := XW.cell (o := 0) rfl
          have z1 := XW.cell (o := 1) rfl
          have z2 := XW.cell (o := 2) rfl
          exact bodyPost_ret (v := .tuple #[zeroSgR.val, .int .i64 14]) (by simp [results, Try.results18, go_sem, zeroSgR, Sg.val, z0, z1, z2]) rfl ⟨rfl, BW⟩
        | true =>
          have hfin : ofSgR s = .ok m := by unfold ofSgR; rw [if_neg hbig, hr]; simp only [htail, if_false, hok, if_true]
          rw [hfin]
          rw [hok] at HF
          clear hr hfin
          go_enter Try.func18, Try.ntmps18
          go_wp2_with fail
          refine hsg.mono ?_
          rintro e w1 ⟨rfl, b1⟩
          have X1 := X0.below b1
          have M1 := blk_new w1 w1.heap.size #[.int .i64 m.frm, .string m.body, .string m.sig] 62 rfl
          have hlt := X1.lt
          have X2 := X1.alloc (.cells #[.int .i64 m.frm, .string m.body, .string m.sig] 62)
          have hb : Below w.heap.size w w1 := (show Below w.heap.size w _ by go_grown).trans (b1.mono (by simp))
          have hb2 := hb.alloc (Nat.le_of_lt hlt) (.cells #[.int .i64 m.frm, .string m.body, .string m.sig] 62)
          unfold Sg.val
          go_wp2_with fail
          refine (HF.out _).mono ?_
          rintro e w2 ⟨rfl, b2⟩
          have X3 := X2.below b2
          have M3 := M1.below b2
          have d0 := X3.cell (o := 0) rfl
          have f0 := X3.frozen (o := 0)
          have d1 := X3.cell (o := 1) rfl
          have f1 := X3.frozen (o := 1)
          have d2 := X3.cell (o := 2) rfl
          have f2 := X3.frozen (o := 2)
          have e0 := M3.cell (o := 0) rfl
          have e1 := M3.cell (o := 1) rfl
          have e2 := M3.cell (o := 2) rfl
          have hb3 := hb2.trans (b2.mono (by simp; omega))
          go_wp2
          obtain ⟨W, hW, XW, BW⟩ := sgOut0 (c0 := .int .i64 m.frm) (c1 := .string m.body) (c2 := .string m.sig) X3 hb3
          rw [hW]
          have z0 := XW.cell (o := 0) rfl
          have z1 := XW.cell (o := 1) rfl
          have z2 := XW.cell (o := 2) rfl
          exact bodyPost_ret (v := .tuple #[m.val, .int .i64 0]) (by simp [results, Try.results18, go_sem, Sg.val, z0, z1, z2]) rfl ⟨rfl, BW⟩
end Go.Proofs.Ytbbhihkeljpikaa
