/- WireOps for every request and every text: what it answers. -/
import Derived.Test.YtdaonkgcdheplaaOpM
import Derived.Test.YtdaonkgcdheplaaAwake
namespace Go.Proofs.Ytdaonkgcdheplaa
open Go.RowKit
set_option linter.unusedVariables false
set_option linter.unusedSimpArgs false

theorem below_drewN {n : Nat} {x w : World} (h : Below n x w) (k : Nat) : Below n x (w.drewN k) := ⟨h.os, h.tape, h.output, h.size, h.block⟩

set_option maxRecDepth 100000 in
set_option maxHeartbeats 1000000 in
theorem sameOp_same (o : Oo) (w : World) : Calls Try.prog 20 #[o.val, o.val] w fun e w' => e = .returned (.bool true) ∧ Below w.heap.size w w' := by
  have hfb := run_f64bits o.pr
  have e0 : (o.k == o.k) = true := by simp
  have e1 : (o.g == o.g) = true := by simp
  have e2 : (o.a == o.a) = true := by simp
  have e3 : (o.d == o.d) = true := by simp
  have e4 : (o.i == o.i) = true := by simp
  unfold Oo.val
  go_enter Try.func20, Try.ntmps20
  go_wp2
  go_quiet (fail)
  go_wp2
  go_ret
  exact ⟨rfl, below_drewN (by go_grown) nq⟩

theorem opR_form (o : Oo) : ∃ (z : ByteArray) (e : Int), opR o = #[.string z, .int .i64 e] ∧ (e = 0 → z = ⟨(opB o).toArray⟩ ∧ opOk o = true) := by
  unfold opR
  by_cases ha : opOk o = true
  · rw [if_pos ha]; exact ⟨_, _, rfl, fun _ => ⟨rfl, ha⟩⟩
  · rw [if_neg ha]; exact ⟨_, _, rfl, fun h => by cases h⟩
theorem opAns_form (r : Except Int Oo) : ∃ (q : Oo) (er : Int), opAns r = #[q.val, .int .i64 er] := by
  cases r with
  | ok o => exact ⟨o, 0, rfl⟩
  | error er => exact ⟨zeroOo, er, rfl⟩

set_option maxRecDepth 100000 in
set_option maxHeartbeats 4000000 in
theorem opsLaw_calls (x : Oo) (s : ByteArray) (w : World) (hp : x.pr < 18446744073709551616) (hs : s.size ≤ maxLen) :
    Calls Try.prog 5 #[x.val, .string s] w fun e w' => e = .returned (.bool true) ∧ Below w.heap.size w w' := by
  have hnot : ∀ (x : Bool) (w : World), (Op.unary .not (.bool x)).run Try.prog w = .ok (.bool (!x)) w := fun _ _ => rfl
  obtain ⟨z, eb, hb, hz⟩ := opR_form x
  obtain ⟨q, er, hq⟩ := opAns_form (ofOpR s)
  have hba := fun wx => putOp_calls x wx hp
  have hbr := fun wx => op_ref x wx hp
  have hof := fun wx => ofOp_calls s wx hs
  have hrf := fun wx => ofOp_ref s wx hs
  rw [hb] at hbr hba
  rw [hq] at hof hrf
  have HBA : Hid _ := hba
  have HBR : Hid _ := hbr
  have HO : Hid _ := hof
  have HR : Hid _ := hrf
  have HZ : Hid _ := hz
  have HSX : Hid _ := fun wx => sameOp_same x wx
  have HSQ : Hid _ := fun wx => sameOp_same q wx
  clear hof hrf hbr hba hz hb hq
  have hzz : (z.toList != z.toList) = false := by simp
  have her : (er == er) = true := by simp
  have heb : (eb != eb) = false := by simp
  have P0 := blk_new w w.heap.size #[.int .i64 x.k, .int .i64 x.g, .int .i64 x.a, .int .i64 x.d, .int .i64 x.i, .float .f64 x.pr] 41 rfl
  have B0 : Below w.heap.size w (w.alloc (.cells #[.int .i64 x.k, .int .i64 x.g, .int .i64 x.a, .int .i64 x.d, .int .i64 x.i, .float .f64 x.pr] 41)) := by go_grown
  unfold Oo.val at HBA HBR HO HR HSX HSQ ⊢
  go_enter Try.func5, Try.ntmps5
  go_wp2_with fail
  refine (HBA.out _).mono ?_
  rintro e w2 ⟨rfl, b2⟩
  have B2 := B0.trans (b2.mono B0.size)
  have P2 := P0.below b2
  have c0 := P2.cell (o := 0) rfl
  have c1 := P2.cell (o := 1) rfl
  have c2 := P2.cell (o := 2) rfl
  have c3 := P2.cell (o := 3) rfl
  have c4 := P2.cell (o := 4) rfl
  have c5 := P2.cell (o := 5) rfl
  clear P0 B0
  go_wp2_with fail
  refine (HBR.out _).mono ?_
  rintro e w3 ⟨rfl, b3⟩
  have B4 := B2.trans (b3.mono B2.size)
  have P4 := P2.below b3
  clear c0 c1 c2 c3 c4 c5 P2
  by_cases he0 : eb = 0
  · obtain ⟨rfl, hok⟩ := HZ.out he0
    subst he0
    have hlen : (⟨(opB x).toArray⟩ : ByteArray).size ≤ maxLen := by
      have h1 := ints_take_len x 5
      have e8 : (le8 x.pr).length = 8 := leN_len _ _
      have e5 : x.ints.take 5 = x.ints := rfl
      rw [e5] at h1
      rw [arr_size]
      unfold opB maxLen
      rw [List.length_append]
      omega
    have hback := fun wx => ofOp_calls ⟨(opB x).toArray⟩ wx hlen
    rw [of_op x hok hp] at hback
    simp only [opAns, Oo.val] at hback
    have HBK : Hid _ := hback
    clear hback hlen hok
    generalize (⟨(opB x).toArray⟩ : ByteArray) = z at *
    go_wp2_with fail
    refine (HBK.out _).mono ?_
    rintro e w5 ⟨rfl, b5⟩
    have B5 := B4.trans (b5.mono B4.size)
    have P5 := P4.below b5
    have B6 := B5.alloc B5.size (.cells #[.int .i64 x.k, .int .i64 x.g, .int .i64 x.a, .int .i64 x.d, .int .i64 x.i, .float .f64 x.pr] 41)
    have c0 := P5.cell (o := 0) rfl
    have c1 := P5.cell (o := 1) rfl
    have c2 := P5.cell (o := 2) rfl
    have c3 := P5.cell (o := 3) rfl
    have c4 := P5.cell (o := 4) rfl
    have c5 := P5.cell (o := 5) rfl
    have hlt5 := P5.lt
    have hnw : ¬ w.heap.size = w5.heap.size := by omega
    go_wp2_with fail
    refine (HSX.out _).mono ?_
    rintro e w6 ⟨rfl, b6⟩
    have B6' := B6.trans (b6.mono B6.size)
    clear c0 c1 c2 c3 c4 c5
    go_wp2_with fail
    refine (HO.out _).mono ?_
    rintro e w7 ⟨rfl, b7⟩
    have B7 := B6'.trans (b7.mono B6'.size)
    have X7 := blk_new w7 w7.heap.size #[.int .i64 q.k, .int .i64 q.g, .int .i64 q.a, .int .i64 q.d, .int .i64 q.i, .float .f64 q.pr] 41 rfl
    have B7' := B7.alloc B7.size (.cells #[.int .i64 q.k, .int .i64 q.g, .int .i64 q.a, .int .i64 q.d, .int .i64 q.i, .float .f64 q.pr] 41)
    go_wp2_with fail
    refine (HR.out _).mono ?_
    rintro e w8 ⟨rfl, b8⟩
    have B8 := B7'.trans (b8.mono B7'.size)
    have X8 := X7.below b8
    have B8' := B8.alloc B8.size (.cells #[.int .i64 q.k, .int .i64 q.g, .int .i64 q.a, .int .i64 q.d, .int .i64 q.i, .float .f64 q.pr] 41)
    have z0 := X8.cell (o := 0) rfl
    have z1 := X8.cell (o := 1) rfl
    have z2 := X8.cell (o := 2) rfl
    have z3 := X8.cell (o := 3) rfl
    have z4 := X8.cell (o := 4) rfl
    have z5 := X8.cell (o := 5) rfl
    have hlt8 := X8.lt
    have hn8 : ¬ w7.heap.size = w8.heap.size := by omega
    go_wp2_with fail
    refine (HSQ.out _).mono ?_
    rintro e w9 ⟨rfl, b9⟩
    have B9 := B8'.trans (b9.mono B8'.size)
    go_wp2_with fail
    refine (awake_calls _).mono ?_
    rintro e w10 ⟨rfl, b10⟩
    go_wp2
    go_ret
    exact ⟨rfl, B9.trans (b10.mono B9.size)⟩
  · have hne : (eb == 0) = false := by simpa using he0
    go_wp2_with fail
    refine (HO.out _).mono ?_
    rintro e w7 ⟨rfl, b7⟩
    have B7 := B4.trans (b7.mono B4.size)
    have X7 := blk_new w7 w7.heap.size #[.int .i64 q.k, .int .i64 q.g, .int .i64 q.a, .int .i64 q.d, .int .i64 q.i, .float .f64 q.pr] 41 rfl
    have B7' := B7.alloc B7.size (.cells #[.int .i64 q.k, .int .i64 q.g, .int .i64 q.a, .int .i64 q.d, .int .i64 q.i, .float .f64 q.pr] 41)
    go_wp2_with fail
    refine (HR.out _).mono ?_
    rintro e w8 ⟨rfl, b8⟩
    have B8 := B7'.trans (b8.mono B7'.size)
    have X8 := X7.below b8
    have B8' := B8.alloc B8.size (.cells #[.int .i64 q.k, .int .i64 q.g, .int .i64 q.a, .int .i64 q.d, .int .i64 q.i, .float .f64 q.pr] 41)
    have z0 := X8.cell (o := 0) rfl
    have z1 := X8.cell (o := 1) rfl
    have z2 := X8.cell (o := 2) rfl
    have z3 := X8.cell (o := 3) rfl
    have z4 := X8.cell (o := 4) rfl
    have z5 := X8.cell (o := 5) rfl
    have hlt8 := X8.lt
    have hn8 : ¬ w7.heap.size = w8.heap.size := by omega
    go_wp2_with fail
    refine (HSQ.out _).mono ?_
    rintro e w9 ⟨rfl, b9⟩
    have B9 := B8'.trans (b9.mono B8'.size)
    go_wp2_with fail
    refine (awake_calls _).mono ?_
    rintro e w10 ⟨rfl, b10⟩
    go_wp2
    go_ret
    exact ⟨rfl, B9.trans (b10.mono B9.size)⟩
end Go.Proofs.Ytdaonkgcdheplaa
