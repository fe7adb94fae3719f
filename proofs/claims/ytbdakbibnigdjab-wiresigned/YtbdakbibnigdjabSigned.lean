/- WireSigned for every message and every text: what it answers. -/
import Derived.Test.YtbdakbibnigdjabRefS
import Derived.Test.YtbdakbibnigdjabRefT
import Derived.Test.YtbdakbibnigdjabSame
namespace Go.Proofs.Ytbdakbibnigdjab
open Go.RowKit
set_option linter.unusedVariables false
set_option linter.unusedSimpArgs false

theorem run_eql_signed (m n : Sg) (w : World) : (binOp .eql 34 m.val n.val).run Try.prog w = .ok (.bool (sgEq m n)) w := by
  unfold Sg.val
  rw [run_eql_struct, run_equalIn_agg]
  · simp [Op.eqFields, go_sem, Program.fieldsOf, Try.underlying34, part, cellsIntS, sgEq]
    by_cases h1 : m.frm = n.frm <;> by_cases h2 : m.body.toList = n.body.toList <;> by_cases h3 : m.sig.toList = n.sig.toList <;> simp [h1, h2, h3]
  · kernel_rfl
  · kernel_rfl

theorem sgAns_form (r : Except Int Sg) : ∃ (m : Sg) (er : Int), sgAns r = #[m.val, .int .i64 er] := by
  cases r with
  | error e => exact ⟨_, _, rfl⟩
  | ok m => exact ⟨_, _, rfl⟩

theorem sgEq_self (m : Sg) : sgEq m m = true := (sgEq_iff m m).2 rfl

set_option maxRecDepth 100000 in
set_option maxHeartbeats 4000000 in
theorem signedLaw_calls (m : Sg) (s : ByteArray) (w : World) (h1 : m.body.size ≤ maxLen) (h2 : m.sig.size ≤ maxLen) (hs : s.size ≤ maxLen) :
    Calls Try.prog 5 #[m.val, .string s] w fun e w' => e = .returned (.bool true) ∧ Below w.heap.size w w' := by
  have hput := fun wx => putSigned_calls m wx h1 h2
  have hfit := fun wx => fits_ref m wx h1 h2
  have hof := fun wx => ofSigned_calls s wx hs
  have hrf := fun wx => ofSigned_ref s wx hs
  obtain ⟨x, er, hx⟩ := sgAns_form (ofSgR s)
  rw [hx] at hof hrf
  have hxx := fun wx => run_eql_signed x x wx
  rw [sgEq_self] at hxx
  have hmm := fun wx => run_neq_signed m m wx
  rw [sgEq_self] at hmm
  have her : (er == er) = true := by simp
  unfold Sg.val at hxx hmm
  have HP : Hid _ := hput
  have HF : Hid _ := hfit
  have HO : Hid _ := hof
  have HR : Hid _ := hrf
  clear hput hfit hof hrf hx
  have M0 := blk_new w w.heap.size #[.int .i64 m.frm, .string m.body, .string m.sig] 34 rfl
  cases hok : sgOk m with
  | false =>
    rw [hok] at HP HF
    unfold Sg.val at HP HF HO HR
    unfold Sg.val
    go_enter Try.func5, Try.ntmps5
    go_wp2_with fail
    refine (HP.out _).mono ?_
    rintro e w1 ⟨rfl, b1⟩
    have B1 : Below w.heap.size w w1 := (show Below w.heap.size w _ by go_grown).trans (b1.mono (by simp))
    have M1 := M0.below b1
    have c0 := M1.cell (o := 0) rfl
    have c1 := M1.cell (o := 1) rfl
    have c2 := M1.cell (o := 2) rfl
    go_wp2_with fail
    refine (HF.out _).mono ?_
    rintro e w2 ⟨rfl, b2⟩
    have B2 := B1.trans (b2.mono B1.size)
    clear c0 c1 c2 M0 M1 b1
    go_wp2_with fail
    refine (HO.out _).mono ?_
    rintro e w3 ⟨rfl, b3⟩
    have B3 := B2.trans (b3.mono B2.size)
    have X0 := blk_new w3 w3.heap.size #[.int .i64 x.frm, .string x.body, .string x.sig] 34 rfl
    have B4 := B3.alloc B3.size (.cells #[.int .i64 x.frm, .string x.body, .string x.sig] 34)
    go_wp2_with fail
    refine (HR.out _).mono ?_
    rintro e w5 ⟨rfl, b5⟩
    have B5 := B4.trans (b5.mono B4.size)
    have X1 := X0.below b5
    have c0 := X1.cell (o := 0) rfl
    have c1 := X1.cell (o := 1) rfl
    have c2 := X1.cell (o := 2) rfl
    have hlt := X1.lt
    have hne : ¬ w3.heap.size = w5.heap.size := by omega
    go_wp2_with fail
    refine (awake_calls _).mono ?_
    rintro e w6 ⟨rfl, b6⟩
    go_wp2
    go_ret
    have B6 := B5.alloc B5.size (.cells #[.int .i64 x.frm, .string x.body, .string x.sig] 34)
    exact ⟨rfl, B6.trans (b6.mono B6.size)⟩
  | true =>
    have hone := fun wx => one_ref m wx hok
    have hback := fun wx => ofSigned_calls ⟨(sgB m).toArray⟩ wx (by have := sgB_len m hok; rw [arr_size]; unfold maxLen; omega)
    rw [ofSg_bytes m hok] at hback
    rw [hok] at HP HF
    have H1 : Hid _ := hone
    have HB : Hid _ := hback
    clear hone hback
    simp only [sgAns] at HB
    unfold Sg.val at HP HF HO HR H1 HB
    unfold Sg.val
    obtain ⟨Z, hZ⟩ : ∃ Z, Z = (⟨(sgB m).toArray⟩ : ByteArray) := ⟨_, rfl⟩
    rw [← hZ] at HP H1 HB
    clear hZ
    have hzz : (Z.toList != Z.toList) = false := by simp
    go_enter Try.func5, Try.ntmps5
    go_wp2_with fail
    refine (HP.out _).mono ?_
    rintro e w1 ⟨rfl, b1⟩
    have B1 : Below w.heap.size w w1 := (show Below w.heap.size w _ by go_grown).trans (b1.mono (by simp))
    have M1 := M0.below b1
    have c0 := M1.cell (o := 0) rfl
    have c1 := M1.cell (o := 1) rfl
    have c2 := M1.cell (o := 2) rfl
    simp only [if_true]
    go_wp2_with fail
    refine (HF.out _).mono ?_
    rintro e w2 ⟨rfl, b2⟩
    have B2 := B1.trans (b2.mono B1.size)
    have M2 := M1.below b2
    clear c0 c1 c2 M0 M1 b1
    go_wp2_with fail
    refine (HB.out _).mono ?_
    rintro e w3 ⟨rfl, b3⟩
    have B3 := B2.trans (b3.mono B2.size)
    have M3 := M2.below b3
    have Q0 := blk_new w3 w3.heap.size #[.int .i64 m.frm, .string m.body, .string m.sig] 34 rfl
    have B3' := B3.alloc B3.size (.cells #[.int .i64 m.frm, .string m.body, .string m.sig] 34)
    have M3' := M3.alloc (.cells #[.int .i64 m.frm, .string m.body, .string m.sig] 34)
    have c0 := M3'.cell (o := 0) rfl
    have c1 := M3'.cell (o := 1) rfl
    have c2 := M3'.cell (o := 2) rfl
    have c0 := M3.cell (o := 0) rfl
    have c1 := M3.cell (o := 1) rfl
    have c2 := M3.cell (o := 2) rfl
    have hlt := M3.lt
    have hne0 : ¬ w.heap.size = w3.heap.size := by omega
    go_wp2_with fail
    refine (H1.out _).mono ?_
    rintro e w4 ⟨rfl, b4⟩
    have B4 := B3'.trans (b4.mono B3'.size)
    have M4 := M3'.below b4
    have Q4 := Q0.below b4
    clear c0 c1 c2
    have c0 := M4.cell (o := 0) rfl
    have c1 := M4.cell (o := 1) rfl
    have c2 := M4.cell (o := 2) rfl
    have q0 := Q4.cell (o := 0) rfl
    have q1 := Q4.cell (o := 1) rfl
    have q2 := Q4.cell (o := 2) rfl
    go_wp2_with fail
    refine (HO.out _).mono ?_
    rintro e w5 ⟨rfl, b5⟩
    have B5 := B4.trans (b5.mono B4.size)
    have X0 := blk_new w5 w5.heap.size #[.int .i64 x.frm, .string x.body, .string x.sig] 34 rfl
    have B6 := B5.alloc B5.size (.cells #[.int .i64 x.frm, .string x.body, .string x.sig] 34)
    clear c0 c1 c2 q0 q1 q2
    go_wp2_with fail
    refine (HR.out _).mono ?_
    rintro e w7 ⟨rfl, b7⟩
    have B7 := B6.trans (b7.mono B6.size)
    have X1 := X0.below b7
    have c0 := X1.cell (o := 0) rfl
    have c1 := X1.cell (o := 1) rfl
    have c2 := X1.cell (o := 2) rfl
    have hlt := X1.lt
    have hne : ¬ w5.heap.size = w7.heap.size := by omega
    go_wp2_with fail
    refine (awake_calls _).mono ?_
    rintro e w8 ⟨rfl, b8⟩
    go_wp2
    go_ret
    have B8 := B7.alloc B7.size (.cells #[.int .i64 x.frm, .string x.body, .string x.sig] 34)
    exact ⟨rfl, B8.trans (b8.mono B8.size)⟩
end Go.Proofs.Ytbdakbibnigdjab
