/- ClientLight: the law's walk. (Written by cllight.py out of clle.txt.) -/
import Derived.Test.YtocphdikppeijaaGreatLy52
namespace Go.Proofs.YtocphdikppeijaaGreat
open Go.RowKit
set_option linter.unusedSimpArgs false
set_option linter.unusedVariables false

variable {p b x y : Nat} {T : List ByteArray} {S : List (Int × ByteArray)}
theorem rcsC_cut {w : World} {a : Option Addr} {l : List Rc} {cap : Nat} (h : RcsC w (.slice a l.length cap) l) (h60 : 60 < l.length) : RcsC w (.slice a 60 cap) (l.take 60) := by
  obtain ⟨hr, a', cap', e, hc, hm⟩ := h
  have e60 : (l.take 60).length = 60 := by rw [List.length_take]; omega
  simp only [Value.slice.injEq] at e
  obtain ⟨rfl, _, rfl⟩ := e
  refine ⟨?_, a, cap, by rw [e60], by omega, hm⟩
  rcases hr with ⟨_, h0⟩ | ⟨g, off, c, e, hx⟩
  · rw [h0] at h60; simp at h60
  · simp only [Value.slice.injEq] at e
    obtain ⟨rfl, _, rfl⟩ := e
    refine Or.inr ⟨g, off, cap, by rw [e60], fun i hi => ?_⟩
    rw [List.getElem_take]
    exact hx i (by omega)
theorem ckA (sq : Int) (hs : 0 ≤ sq ∧ sq < 100) {r : ByteArray} (hr : 1 ≤ r.size ∧ r.size ≤ 32) {A : Nat → Int} (hA : ∀ i, A i = 4 * (1 + sq) ∨ A i = 4 * (1 + sq) + 4) (i : Nat) : byE (ckB (A i) r) = 0 := by
  refine byE_len (ck_right _ r ?_ hr) (by have := ck_len (A i) r hr.2; omega)
  rcases hA i with e | e
  · rw [e]; exact ⟨by omega, by omega, Int.mul_tmod_right 4 (1 + sq)⟩
  · rw [e]; refine ⟨by omega, by omega, ?_⟩
    rw [show 4 * (1 + sq) + 4 = 4 * (2 + sq) by omega]
    exact Int.mul_tmod_right 4 (2 + sq)
theorem light_eq2 (w : World) : (binOp .eql 34 (.agg lightZ) (.agg lightZ)).run Tryz.prog w = .ok (.bool true) w := light_eq w

set_option maxHeartbeats 20000000 in
set_option maxRecDepth 100000 in
theorem clientLight_calls (faults : Int) (a : Option Addr) (cap : Nat) (l : List Rc) (seq0 certs spoil : Int) (key : ByteArray) (w : World) (hl : RcsC w (.slice a l.length cap) l) :
    Calls Tryz.prog 3 #[.int .i64 faults, .agg #[.slice a l.length cap, .int .i64 seq0, .int .i64 certs, .int .i64 spoil], .string key] w fun e w' => e = .returned (.bool true) ∧ Below w.heap.size w w' := by
  have hcap : l.length ≤ cap ∧ cap ≤ 9223372036854775807 := by
    obtain ⟨_, a', cap', e, h1, h2⟩ := hl
    simp only [Value.slice.injEq] at e
    obtain ⟨_, _, rfl⟩ := e
    exact ⟨h1, h2⟩
  obtain ⟨W1, hW1, X1, B1, Z1⟩ : ∃ W1, w.alloc (.cells #[.slice a l.length cap, .int .i64 seq0, .int .i64 certs, .int .i64 spoil] 24) = W1 ∧ Blk W1 w.heap.size #[.slice a l.length cap, .int .i64 seq0, .int .i64 certs, .int .i64 spoil] 24 ∧ Below w.heap.size w W1 ∧ W1.heap.size = w.heap.size + 1 :=
    ⟨_, rfl, blk_new _ _ _ _ rfl, by go_grown, by simp⟩
  have HN : Hid _ := newBook_calls W1
  have HAw : Hid _ := awake_calls
  have har := arn_range seq0 100 (by decide)
  have HA1 : Hid _ := fun wx => around_calls seq0 100 wx (by decide) (by decide)
  have hfa := arn_range faults 4 (by decide)
  have HCf : Hid _ := fun wx => config_calls faults wx
  have HL1 : Hid _ := hl.below B1
  have HL0 : Hid _ := hl
  have zW1 : w.heap.size < W1.heap.size := by omega
  have HSh := fun (f : Int) (hf : 1 ≤ f ∧ f ≤ 4) (p b x y : Nat) (L : List Rc) (wx : World) (h : Book wx p b x y [] []) (hL : Rcs wx (.slice a L.length cap) L) (hll : L.length ≤ 60) => shown_calls f hf a cap L seq0 certs spoil key wx h hL hll
  generalize arn seq0 100 = sq at *
  obtain ⟨f, hf⟩ : ∃ f, 1 + arn faults 4 = f := ⟨_, rfl⟩
  have hf4 : 1 ≤ f ∧ f ≤ 4 := by omega
  rw [hf] at HCf
  obtain ⟨SEQ, hSEQ⟩ : ∃ SEQ, 4 * (1 + sq) = SEQ := ⟨_, rfl⟩
  rw [hSEQ] at HSh
  have w1 : IntKind.i64.wrap (1 + sq) = 1 + sq := wrapC (by omega) (by omega)
  have w2 : IntKind.i64.wrap (4 * (1 + sq)) = 4 * (1 + sq) := wrapC (by omega) (by omega)
  rw [hSEQ] at w2
  have HS0 : Hid _ := HSh
  clear HSh hl hf hfa
  go_enter Tryz.func3, Tryz.ntmps3
  go_wp2_with fail
  refine Calls.mono HN.out ?_
  rintro e w2' ⟨p, b, x, y, rfl, hB, b1, g1', g2', g3, g4⟩
  go_wp2_with fail
  refine (HCf.out _).mono ?_
  rintro e w3 ⟨rfl, b3⟩
  obtain ⟨W4, hW4, XC, B4⟩ : ∃ W4, w3.alloc (.cells #[.int .i64 f, .int .i64 3, .int .i64 2, .int .i64 5] 28) = W4 ∧ Blk W4 w3.heap.size #[.int .i64 f, .int .i64 3, .int .i64 2, .int .i64 5] 28 ∧ Below w3.heap.size w3 W4 := ⟨_, rfl, blk_new _ _ _ _ rfl, by go_grown⟩
  have b24 := chain b3 B4
  have X4 := (X1.below b1).below b24
  have c0 : W4.cell? ⟨w.heap.size, 0, none⟩ = some (.slice a l.length cap) := X4.cell rfl
  have fz : W4.frozen? ⟨w.heap.size, 0, none⟩ = false := X4.frozen
  have hB4 := hB.below b24
  have HL4 : Hid _ := (RcsC.below HL1.out b1).below b24
  have HB4 : Hid _ := chain (chain B1 b1) b24
  have z3 : w.heap.size + 1 ≤ w3.heap.size := by have := b1.size; have := b3.size; omega
  have HX4 : Hid _ := X4
  have HXC : Hid _ := XC
  have HBk : Hid _ := hB4
  have hlt := hB4.lts
  have hx3 : x < w3.heap.size ∧ y < w3.heap.size := by have := hB.lts; have := b3.size; omega
  clear X1 XC X4 hB4 hB HL1 HN HCf Z1 b1 b3 B4 b24 B1
  go_upto_if 21 with fail
  go_cut [] (fun wx => ∃ l1 : List Rc, l1.length ≤ 60 ∧ RcsC wx (.slice a l1.length cap) l1 ∧ Blk wx w.heap.size #[.slice a l1.length cap, .int .i64 seq0, .int .i64 certs, .int .i64 spoil] 24 ∧ Blk wx w3.heap.size #[.int .i64 f, .int .i64 3, .int .i64 2, .int .i64 5] 28 ∧ Book wx p b x y [] [] ∧ Below w.heap.size w wx)
  case first =>
    by_cases h : 60 < l.length
    · have hd : decide (60 < (l.length : Int)) = true := by simp only [decide_eq_true_eq]; omega
      go_wp2_with fail
      go_meet
      have e60 : (l.take 60).length = 60 := by rw [List.length_take]; omega
      have hOff : Off w.heap.size W4 (W4.setCell ⟨w.heap.size, 0, none⟩ (.slice a 60 cap)) := Off.setCell (Off.refl _ _) (p := ⟨w.heap.size, 0, none⟩) rfl _
      have hBl : Below w.heap.size w (W4.setCell ⟨w.heap.size, 0, none⟩ (.slice a 60 cap)) := hOff.below (Nat.le_refl _) HB4.out (by have := HB4.out.size; omega)
      refine ⟨l.take 60, by omega, ?_, ?_, ?_, ?_, hBl⟩
      · rw [e60]; exact (rcsC_cut HL0.out h).below hBl
      · rw [e60]; exact Blk.set HX4.out 0 (.slice a 60 cap)
      · exact Blk.setOther HXC.out (by simp; omega) _
      · exact HBk.out.grown hOff.by ⟨by simp; omega, by simp; omega, by simp; omega, by simp; omega⟩
    · have hd : decide (60 < (l.length : Int)) = false := by simp only [decide_eq_false_iff_not]; omega
      go_wp2_with fail
      go_meet
      exact ⟨l, by omega, HL4.out, HX4.out, HXC.out, HBk.out, HB4.out⟩
  case rest =>
    rename World => w5
    obtain ⟨l1, zl, hl1, X5, XC5, hB5, b5⟩ := hcut
    clear HL0 HL4 HX4 HXC HBk HB4 c0 fz hlt hcap hW4 hW1
    have s0 : w5.cell? ⟨w.heap.size, 0, none⟩ = some (.slice a l1.length cap) := X5.cell rfl
    have s1 : w5.cell? ⟨w.heap.size, 1, none⟩ = some (.int .i64 seq0) := X5.cell rfl
    have s2 : w5.cell? ⟨w.heap.size, 2, none⟩ = some (.int .i64 certs) := X5.cell rfl
    have s3 : w5.cell? ⟨w.heap.size, 3, none⟩ = some (.int .i64 spoil) := X5.cell rfl
    have f0 : w5.cell? ⟨w3.heap.size, 0, none⟩ = some (.int .i64 f) := XC5.cell rfl
    have HS1 : Hid _ := HS0.out f hf4 p b x y l1 w5 hB5 hl1.1 zl
    have HX5 : Hid _ := X5
    have HXC5 : Hid _ := XC5
    have HL5 : Hid _ := hl1.1
    have HB5 : Hid _ := hB5
    have zb5 := b5.size
    have zc5 := Blk.lt XC5
    clear X5 XC5 hl1 hB5 HS0
    go_wp2_with fail
    refine Calls.mono HS1.out ?_
    rintro e w6 hs
    rcases hs with ⟨s, g, S', rfl, ⟨T', hB6⟩, o6⟩ | ⟨n, A, r, T', q, r0, hK, n1, hn, hA, hR, hF, hSh, hLd, hT, he, rfl, hB6, o6⟩
    · have b6 : Below w.heap.size w w6 := o6.below (by omega) (by omega) b5 b5.size
      clear s0 s1 s2 s3 f0
      go_wp2_with fail
      refine (HAw.out _).mono ?_
      rintro e w7 ⟨rfl, b7⟩
      go_wp2
      go_ret
      exact ⟨rfl, chain b6 b7⟩
    · have b6 : Below w.heap.size w w6 := o6.below (by omega) (by omega) b5 b5.size
      have hrz := root_size hR
      rw [← hSEQ] at hA
      have HTo : Hid _ := told_calls f hf4 l1 SEQ key n A r q w6 r0 hK hn (ckA sq har hrz hA) hR hF hSh hLd hT he hB6
      have X6 : Blk w6 w.heap.size #[.slice a l1.length cap, .int .i64 seq0, .int .i64 certs, .int .i64 spoil] 24 := Blk.off2 HX5.out o6 (by omega) (by omega)
      have XC6 : Blk w6 w3.heap.size #[.int .i64 f, .int .i64 3, .int .i64 2, .int .i64 5] 28 := Blk.off2 HXC5.out o6 (by omega) (by omega)
      have HL6 : Hid _ := Rcs.off2 HL5.out HB5.out o6
      have HRi : Hid _ := rising_of r0
      have HB6 : Hid _ := hB6
      have q0 : w6.cell? ⟨w3.heap.size, 0, none⟩ = some (.int .i64 f) := XC6.cell rfl
      have q1 : w6.cell? ⟨w3.heap.size, 1, none⟩ = some (.int .i64 3) := XC6.cell rfl
      have q2 : w6.cell? ⟨w3.heap.size, 2, none⟩ = some (.int .i64 2) := XC6.cell rfl
      have q3 : w6.cell? ⟨w3.heap.size, 3, none⟩ = some (.int .i64 5) := XC6.cell rfl
      have HX6 : Hid _ := X6
      have HXC6 : Hid _ := XC6
      have z6 := o6.size
      generalize sgM (ckS r A [] n) 0 (prB SEQ r ⟨(pfB q).toArray⟩ (ckM r A [] n)) = M at *
      generalize (⟨(sgB M).toArray⟩ : ByteArray) = MB at *
      generalize (forS A SEQ n).length = gd at *
      clear X6 XC6 s0 s1 s2 s3 f0 HS1 HX5 HXC5 HL5 HB5 hR hF hSh hLd hT he hB6 hA hrz n1 hn b5
      go_wp2_with fail
      refine Calls.mono HTo.out ?_
      rintro e w7 ⟨⟨T7, S7, hB7⟩, o7, hc⟩
      have b7 : Below w.heap.size w w7 := o7.below (by omega) (by omega) b6 b6.size
      rcases hc with ⟨hg, rfl⟩ | ⟨hg, V, H, htr, rfl⟩
      · obtain ⟨n0, t0, h0, hz, hle⟩ : ∃ (n0 : Int) (t0 : ByteArray) (h0 : Bool), lightZ = #[.int .i64 n0, .string t0, .bool h0] ∧ ∀ w, (binOp .eql 34 (.agg #[.int .i64 n0, .string t0, .bool h0]) (.agg #[.int .i64 0, .string ⟨#[]⟩, .bool false])).run Tryz.prog w = .ok (.bool true) w := ⟨0, ⟨#[]⟩, false, rfl, light_eq⟩
        rw [hz]
        obtain ⟨W8, hW8, X8, B8⟩ : ∃ W8, w7.alloc (.cells #[.int .i64 n0, .string t0, .bool h0] 34) = W8 ∧ Blk W8 w7.heap.size #[.int .i64 n0, .string t0, .bool h0] 34 ∧ Below w7.heap.size w7 W8 := ⟨_, rfl, blk_new _ _ _ _ rfl, by go_grown⟩
        have l0 : W8.cell? ⟨w7.heap.size, 0, none⟩ = some (.int .i64 n0) := X8.cell rfl
        have l1' : W8.cell? ⟨w7.heap.size, 1, none⟩ = some (.string t0) := X8.cell rfl
        have l2 : W8.cell? ⟨w7.heap.size, 2, none⟩ = some (.bool h0) := X8.cell rfl
        have p0 : W8.cell? ⟨w3.heap.size, 0, none⟩ = some (.int .i64 f) := Blk.cell (Blk.below (Blk.off2 HXC6.out o7 (by omega) (by omega)) B8) rfl
        have hd : decide ((gd : Int) ≤ f) = true := decide_eq_true hg
        clear X8 q0 q1 q2 q3 HTo hz
        go_wp2_with fail
        refine (HAw.out _).mono ?_
        rintro e w9 ⟨rfl, b9⟩
        go_wp2
        go_ret
        exact ⟨rfl, chain (chain b7 B8) b9⟩
      · obtain ⟨W8, hW8, X8, B8⟩ : ∃ W8, w7.alloc (.cells #[.int .i64 SEQ, .string V, .bool H] 34) = W8 ∧ Blk W8 w7.heap.size #[.int .i64 SEQ, .string V, .bool H] 34 ∧ Below w7.heap.size w7 W8 := ⟨_, rfl, blk_new _ _ _ _ rfl, by go_grown⟩
        have p0 : W8.cell? ⟨w3.heap.size, 0, none⟩ = some (.int .i64 f) := Blk.cell (Blk.below (Blk.off2 HXC6.out o7 (by omega) (by omega)) B8) rfl
        have XS8 := Blk.below (Blk.off2 HX6.out o7 (by omega) (by omega)) B8
        have t0 : W8.cell? ⟨w.heap.size, 0, none⟩ = some (.slice a l1.length cap) := XS8.cell rfl
        have hd : decide ((gd : Int) ≤ f) = false := decide_eq_false (by omega)
        have HL8 : Hid _ := (Rcs.off2 HL6.out HB6.out o7).below B8
        have HAt : Hid _ := refAt_calls _ l1 key W8 HL8.out (by omega)
        have HTR : Hid _ := htr
        have HX8 : Hid _ := X8
        have HXS8 : Hid _ := XS8
        have b8 := chain b7 B8
        clear X8 XS8 q0 q1 q2 q3 HTo htr hB7 HL6 HB6 o7 o6 HX6 HXC6 b7 b6 B8
        go_wp2_with fail
        refine Calls.mono HAt.out ?_
        rintro e w9 ⟨rfl, ⟨rfl, hn⟩ | ⟨kk, m, rfl, hm, hkk⟩⟩
        · have ht : H = false ∧ V = ⟨#[]⟩ := by
            rcases HTR.out with ⟨h1, h2, _⟩ | ⟨_, m, hm, hk, _⟩
            · exact ⟨h1, h2⟩
            · exact absurd hk (hn m hm)
          obtain ⟨rfl, rfl⟩ := ht
          clear HTR HAt hn HRi HL8
          have g0 : w9.cell? ⟨w7.heap.size, 0, none⟩ = some (.int .i64 SEQ) := Blk.cell HX8.out rfl
          have g1 : w9.cell? ⟨w.heap.size, 1, none⟩ = some (.int .i64 seq0) := Blk.cell HXS8.out rfl
          have g2 : w9.cell? ⟨w7.heap.size, 2, none⟩ = some (.bool false) := Blk.cell HX8.out rfl
          have v0 : w9.cell? ⟨w7.heap.size, 1, none⟩ = some (.string ⟨#[]⟩) := Blk.cell HX8.out rfl
          have nq : (SEQ != SEQ) = false := by simp
          have nq2 : (SEQ == SEQ) = true := by simp
          have HV0 : Hid _ := v0
          clear HX8 HXS8 p0 t0 hd hW8 v0
          go_wp2_with fail
          go_quiet ((go_at_call 11; exact Calls.quiet_of_same (HA1.out _)))
          clear g0 g1 g2
          go_wp2_with fail
          refine wp_region_held_drew (S := fun W => W.cell? ⟨w7.heap.size, 1, none⟩ = some (.string ⟨#[]⟩) ∧ W.cell? ⟨w7.heap.size, 1, none⟩ = some (.string ⟨#[]⟩)) (by kernel_rfl) ⟨HV0.out, HV0.out⟩ (fun hS => ?_)
          refine wpAnyH_take (i := 0) (v := .int .i64 (-1)) rfl (by kernel_rfl) (by kernel_rfl) (by kernel_rfl) (fun _ _ _ h => h) (Or.inl ⟨by kernel_rfl, fun w hS => by obtain ⟨s0, s1⟩ := hS; go_simp⟩) hS ?_
          refine wpAnyH_take (i := 1) (v := .bool true) rfl (by kernel_rfl) (by kernel_rfl) (by kernel_rfl) (fun _ _ _ h => h) (Or.inl ⟨by kernel_rfl, fun w hS => by obtain ⟨s0, s1⟩ := hS; go_simp⟩) hS ?_
          refine wpAnyH_take (i := 2) (v := .bool true) rfl (by kernel_rfl) (by kernel_rfl) (by kernel_rfl) (fun _ _ _ h => h) (Or.inl ⟨by kernel_rfl, fun w hS => by obtain ⟨s0, s1⟩ := hS; go_simp⟩) hS ?_
          refine wpAnyH_take (i := 3) (v := .pointer (some ⟨w7.heap.size, 1, none⟩)) rfl (by kernel_rfl) (by kernel_rfl) (by kernel_rfl) (fun _ _ _ h => h) (Or.inl ⟨by kernel_rfl, fun w hS => by obtain ⟨s0, s1⟩ := hS; go_simp⟩) hS ?_
          refine wpAnyH_take (i := 4) (v := .string ⟨#[]⟩) rfl (by kernel_rfl) (by kernel_rfl) (by kernel_rfl) (fun _ _ _ h => h) (Or.inl ⟨by kernel_rfl, fun w hS => by obtain ⟨s0, s1⟩ := hS; go_simp⟩) hS ?_
          refine wpAnyH_take (i := 5) (v := .bool true) rfl (by kernel_rfl) (by kernel_rfl) (by kernel_rfl) (fun _ _ _ h => h) (Or.inl ⟨by kernel_rfl, fun w hS => by obtain ⟨s0, s1⟩ := hS; go_simp⟩) hS ?_
          refine wpAnyH_take (i := 6) (v := .bool true) rfl (by kernel_rfl) (by kernel_rfl) (by kernel_rfl) (fun _ _ _ h => h) (Or.inl ⟨by kernel_rfl, fun w hS => by obtain ⟨s0, s1⟩ := hS; go_simp⟩) hS ?_
          refine wpAnyH_take (i := 7) (v := .bool true) rfl (by kernel_rfl) (by kernel_rfl) (by kernel_rfl) (fun _ _ _ h => h) (Or.inl ⟨by kernel_rfl, fun w hS => by obtain ⟨s0, s1⟩ := hS; go_simp⟩) hS ?_
          refine wpAnyH_take (i := 8) (v := undef) rfl (by kernel_rfl) (by kernel_rfl) (by kernel_rfl) (fun _ _ _ h => h) (Or.inr ⟨by kernel_rfl, rfl⟩) hS ?_
          refine wpAnyH_take (i := 9) (v := undef) rfl (by kernel_rfl) (by kernel_rfl) (by kernel_rfl) (fun _ _ _ h => h) (Or.inr ⟨by kernel_rfl, rfl⟩) hS ?_
          refine wpAnyH_take (i := 10) (v := undef) rfl (by kernel_rfl) (by kernel_rfl) (by kernel_rfl) (fun _ _ _ h => h) (Or.inr ⟨by kernel_rfl, rfl⟩) hS ?_
          refine wpAnyH_take (i := 11) (v := undef) rfl (by kernel_rfl) (by kernel_rfl) (by kernel_rfl) (fun _ _ _ h => h) (Or.inr ⟨by kernel_rfl, rfl⟩) hS ?_
          refine wpAnyH_take (i := 12) (v := undef) rfl (by kernel_rfl) (by kernel_rfl) (by kernel_rfl) (fun _ _ _ h => h) (Or.inr ⟨by kernel_rfl, rfl⟩) hS ?_
          refine wpAnyH_take (i := 13) (v := undef) rfl (by kernel_rfl) (by kernel_rfl) (by kernel_rfl) (fun _ _ _ h => h) (Or.inr ⟨by kernel_rfl, rfl⟩) hS ?_
          refine wpAnyH_take (i := 14) (v := undef) rfl (by kernel_rfl) (by kernel_rfl) (by kernel_rfl) (fun _ _ _ h => h) (Or.inr ⟨by kernel_rfl, rfl⟩) hS ?_
          refine wpAnyH_take (i := 15) (v := undef) rfl (by kernel_rfl) (by kernel_rfl) (by kernel_rfl) (fun _ _ _ h => h) (Or.inr ⟨by kernel_rfl, rfl⟩) hS ?_
          refine wpAnyH_take (i := 16) (v := undef) rfl (by kernel_rfl) (by kernel_rfl) (by kernel_rfl) (fun _ _ _ h => h) (Or.inr ⟨by kernel_rfl, rfl⟩) hS ?_
          refine wpAnyH_take (i := 17) (v := undef) rfl (by kernel_rfl) (by kernel_rfl) (by kernel_rfl) (fun _ _ _ h => h) (Or.inr ⟨by kernel_rfl, rfl⟩) hS ?_
          refine wpAnyH_take (i := 18) (v := undef) rfl (by kernel_rfl) (by kernel_rfl) (by kernel_rfl) (fun _ _ _ h => h) (Or.inr ⟨by kernel_rfl, rfl⟩) hS ?_
          refine wpAnyH_take (i := 19) (v := undef) rfl (by kernel_rfl) (by kernel_rfl) (by kernel_rfl) (fun _ _ _ h => h) (Or.inr ⟨by kernel_rfl, rfl⟩) hS ?_
          refine wpAnyH_take (i := 20) (v := undef) rfl (by kernel_rfl) (by kernel_rfl) (by kernel_rfl) (fun _ _ _ h => h) (Or.inr ⟨by kernel_rfl, rfl⟩) hS ?_
          refine wpAnyH_take (i := 21) (v := .bool true) rfl (by kernel_rfl) (by kernel_rfl) (by kernel_rfl) (fun _ _ _ h => h) (Or.inl ⟨by kernel_rfl, fun w hS => by obtain ⟨s0, s1⟩ := hS; go_simp⟩) hS ?_
          refine wpAnyH_take (i := 22) (v := .bool true) rfl (by kernel_rfl) (by kernel_rfl) (by kernel_rfl) (fun _ _ _ h => h) (Or.inl ⟨by kernel_rfl, fun w hS => by obtain ⟨s0, s1⟩ := hS; go_simp⟩) hS ?_
          refine wpAnyH_ready (rs := [23]) (by kernel_rfl) (by simp) ?_
          refine readyH_callK (i := 23) rfl (by kernel_rfl) (fun K hK => ?_)
          go_simp
          refine Calls.mono (HAw.out _) ?_
          rintro e w10 ⟨rfl, b10⟩
          refine hK.out _ _ ⟨keepCell b10 hS.1, keepCell b10 hS.2⟩ (fun hS => ?_)
          clear hK
          refine wpAnyH_take (i := 24) (v := .bool true) rfl (by kernel_rfl) (by kernel_rfl) (by kernel_rfl) (fun _ _ _ h => h) (Or.inl ⟨by kernel_rfl, fun w hS => by obtain ⟨s0, s1⟩ := hS; go_simp⟩) hS ?_
          refine wpAnyH_take (i := 25) (v := .bool true) rfl (by kernel_rfl) (by kernel_rfl) (by kernel_rfl) (fun _ _ _ h => h) (Or.inl ⟨by kernel_rfl, fun w hS => by obtain ⟨s0, s1⟩ := hS; go_simp⟩) hS ?_
          refine wpAnyH_done (by kernel_rfl) ?_ _
          go_wp2
          go_ret
          exact ⟨rfl, chain (chain (chain b8 (below_drewN _ _ _)) (Below.refl _ _).drew) b10⟩
        · have hmm : m ∈ l1 := List.mem_of_getElem? hm
          have ht : H = true ∧ V = m.dat := by
            rcases HTR.out with ⟨_, _, h2⟩ | ⟨h1, n, hn, hk2, hv⟩
            · exact absurd hkk (h2 m hmm)
            · refine ⟨h1, ?_⟩
              rw [← hv, rising_uniq HRi.out hmm hn (hkk.trans hk2.symm)]
          obtain ⟨rfl, rfl⟩ := ht
          obtain ⟨hkl, hme⟩ := List.getElem?_eq_some_iff.1 hm
          obtain ⟨ga, off, rfl, v2⟩ : ∃ ga off, a = some ⟨ga, off, none⟩ ∧ w9.cell? ⟨ga, off + kk * 2 + 1, none⟩ = some (.string m.dat) := by
            rcases HL8.out with ⟨_, h0⟩ | ⟨g, off, c, e, hx⟩
            · rw [h0] at hkl; simp at hkl
            · simp only [Value.slice.injEq] at e
              have := (hx kk hkl).2.1
              rw [hme] at this
              exact ⟨g, off, e.1, this⟩
          have d0 : decide ((kk : Int) < 0) = false := decide_eq_false (by omega)
          have d00 : decide ((0 : Int) ≤ (kk : Int)) = true := decide_eq_true (by omega)
          have d1 : (kk : Int) < (l1.length : Int) := by omega
          have d2 : (0 : Int) ≤ (kk : Int) := by omega
          have g0 : w9.cell? ⟨w7.heap.size, 0, none⟩ = some (.int .i64 SEQ) := Blk.cell HX8.out rfl
          have g1 : w9.cell? ⟨w.heap.size, 1, none⟩ = some (.int .i64 seq0) := Blk.cell HXS8.out rfl
          have g2 : w9.cell? ⟨w7.heap.size, 2, none⟩ = some (.bool true) := Blk.cell HX8.out rfl
          have v0 : w9.cell? ⟨w7.heap.size, 1, none⟩ = some (.string m.dat) := Blk.cell HX8.out rfl
          have v1 : w9.cell? ⟨w.heap.size, 0, none⟩ = some (.slice (some ⟨ga, off, none⟩) l1.length cap) := Blk.cell HXS8.out rfl
          clear hm hme HTR HL8 HAt HRi hmm hkk
          have nq : (SEQ != SEQ) = false := by simp
          have nq2 : (SEQ == SEQ) = true := by simp
          have HV0 : Hid _ := v0
          clear HX8 HXS8 p0 t0 hd hW8 v0
          go_wp2_with fail
          go_quiet ((go_at_call 11; exact Calls.quiet_of_same (HA1.out _)))
          clear g0 g1 g2
          go_wp2_with fail
          refine wp_region_held_drew (S := fun W => W.cell? ⟨w7.heap.size, 1, none⟩ = some (.string m.dat) ∧ W.cell? ⟨w.heap.size, 0, none⟩ = some (.slice (some ⟨ga, off, none⟩) l1.length cap) ∧ W.cell? ⟨ga, off + kk * 2 + 1, none⟩ = some (.string m.dat)) (by kernel_rfl) ⟨HV0.out, v1, v2⟩ (fun hS => ?_)
          refine wpAnyH_take (i := 0) (v := .int .i64 kk) rfl (by kernel_rfl) (by kernel_rfl) (by kernel_rfl) (fun _ _ _ h => h) (Or.inl ⟨by kernel_rfl, fun w hS => by obtain ⟨s0, s1, s2⟩ := hS; go_simp⟩) hS ?_
          refine wpAnyH_take (i := 1) (v := .bool false) rfl (by kernel_rfl) (by kernel_rfl) (by kernel_rfl) (fun _ _ _ h => h) (Or.inl ⟨by kernel_rfl, fun w hS => by obtain ⟨s0, s1, s2⟩ := hS; go_simp⟩) hS ?_
          refine wpAnyH_take (i := 2) (v := .bool false) rfl (by kernel_rfl) (by kernel_rfl) (by kernel_rfl) (fun _ _ _ h => h) (Or.inl ⟨by kernel_rfl, fun w hS => by obtain ⟨s0, s1, s2⟩ := hS; go_simp⟩) hS ?_
          refine wpAnyH_take (i := 3) (v := undef) rfl (by kernel_rfl) (by kernel_rfl) (by kernel_rfl) (fun _ _ _ h => h) (Or.inr ⟨by kernel_rfl, rfl⟩) hS ?_
          refine wpAnyH_take (i := 4) (v := undef) rfl (by kernel_rfl) (by kernel_rfl) (by kernel_rfl) (fun _ _ _ h => h) (Or.inr ⟨by kernel_rfl, rfl⟩) hS ?_
          refine wpAnyH_take (i := 5) (v := undef) rfl (by kernel_rfl) (by kernel_rfl) (by kernel_rfl) (fun _ _ _ h => h) (Or.inr ⟨by kernel_rfl, rfl⟩) hS ?_
          refine wpAnyH_take (i := 6) (v := .bool false) rfl (by kernel_rfl) (by kernel_rfl) (by kernel_rfl) (fun _ _ _ h => h) (Or.inl ⟨by kernel_rfl, fun w hS => by obtain ⟨s0, s1, s2⟩ := hS; go_simp⟩) hS ?_
          refine wpAnyH_take (i := 7) (v := .bool false) rfl (by kernel_rfl) (by kernel_rfl) (by kernel_rfl) (fun _ _ _ h => h) (Or.inl ⟨by kernel_rfl, fun w hS => by obtain ⟨s0, s1, s2⟩ := hS; go_simp⟩) hS ?_
          refine wpAnyH_take (i := 8) (v := .int .i64 kk) rfl (by kernel_rfl) (by kernel_rfl) (by kernel_rfl) (fun _ _ _ h => h) (Or.inl ⟨by kernel_rfl, fun w hS => by obtain ⟨s0, s1, s2⟩ := hS; go_simp⟩) hS ?_
          refine wpAnyH_take (i := 9) (v := .bool true) rfl (by kernel_rfl) (by kernel_rfl) (by kernel_rfl) (fun _ _ _ h => h) (Or.inl ⟨by kernel_rfl, fun w hS => by obtain ⟨s0, s1, s2⟩ := hS; go_simp⟩) hS ?_
          refine wpAnyH_take (i := 10) (v := .bool true) rfl (by kernel_rfl) (by kernel_rfl) (by kernel_rfl) (fun _ _ _ h => h) (Or.inl ⟨by kernel_rfl, fun w hS => by obtain ⟨s0, s1, s2⟩ := hS; go_simp⟩) hS ?_
          refine wpAnyH_take (i := 11) (v := .pointer (some ⟨w7.heap.size, 1, none⟩)) rfl (by kernel_rfl) (by kernel_rfl) (by kernel_rfl) (fun _ _ _ h => h) (Or.inl ⟨by kernel_rfl, fun w hS => by obtain ⟨s0, s1, s2⟩ := hS; go_simp⟩) hS ?_
          refine wpAnyH_take (i := 12) (v := .string m.dat) rfl (by kernel_rfl) (by kernel_rfl) (by kernel_rfl) (fun _ _ _ h => h) (Or.inl ⟨by kernel_rfl, fun w hS => by obtain ⟨s0, s1, s2⟩ := hS; go_simp⟩) hS ?_
          refine wpAnyH_take (i := 13) (v := .pointer (some ⟨w.heap.size, 0, none⟩)) rfl (by kernel_rfl) (by kernel_rfl) (by kernel_rfl) (fun _ _ _ h => h) (Or.inl ⟨by kernel_rfl, fun w hS => by obtain ⟨s0, s1, s2⟩ := hS; go_simp⟩) hS ?_
          refine wpAnyH_take (i := 14) (v := .slice (some ⟨ga, off, none⟩) l1.length cap) rfl (by kernel_rfl) (by kernel_rfl) (by kernel_rfl) (fun _ _ _ h => h) (Or.inl ⟨by kernel_rfl, fun w hS => by obtain ⟨s0, s1, s2⟩ := hS; go_simp⟩) hS ?_
          refine wpAnyH_take (i := 15) (v := .int .i64 kk) rfl (by kernel_rfl) (by kernel_rfl) (by kernel_rfl) (fun _ _ _ h => h) (Or.inl ⟨by kernel_rfl, fun w hS => by obtain ⟨s0, s1, s2⟩ := hS; go_simp⟩) hS ?_
          refine wpAnyH_take (i := 16) (v := .pointer (some ⟨ga, off + kk * 2, none⟩)) rfl (by kernel_rfl) (by kernel_rfl) (by kernel_rfl) (fun _ _ _ h => h) (Or.inl ⟨by kernel_rfl, fun w hS => by obtain ⟨s0, s1, s2⟩ := hS; go_simp⟩) hS ?_
          refine wpAnyH_take (i := 17) (v := .pointer (some ⟨ga, off + kk * 2 + 1, none⟩)) rfl (by kernel_rfl) (by kernel_rfl) (by kernel_rfl) (fun _ _ _ h => h) (Or.inl ⟨by kernel_rfl, fun w hS => by obtain ⟨s0, s1, s2⟩ := hS; go_simp⟩) hS ?_
          refine wpAnyH_take (i := 18) (v := .string m.dat) rfl (by kernel_rfl) (by kernel_rfl) (by kernel_rfl) (fun _ _ _ h => h) (Or.inl ⟨by kernel_rfl, fun w hS => by obtain ⟨s0, s1, s2⟩ := hS; go_simp⟩) hS ?_
          refine wpAnyH_take (i := 19) (v := .bool true) rfl (by kernel_rfl) (by kernel_rfl) (by kernel_rfl) (fun _ _ _ h => h) (Or.inl ⟨by kernel_rfl, fun w hS => by obtain ⟨s0, s1, s2⟩ := hS; go_simp⟩) hS ?_
          refine wpAnyH_take (i := 20) (v := .bool true) rfl (by kernel_rfl) (by kernel_rfl) (by kernel_rfl) (fun _ _ _ h => h) (Or.inl ⟨by kernel_rfl, fun w hS => by obtain ⟨s0, s1, s2⟩ := hS; go_simp⟩) hS ?_
          refine wpAnyH_take (i := 21) (v := .bool true) rfl (by kernel_rfl) (by kernel_rfl) (by kernel_rfl) (fun _ _ _ h => h) (Or.inl ⟨by kernel_rfl, fun w hS => by obtain ⟨s0, s1, s2⟩ := hS; go_simp⟩) hS ?_
          refine wpAnyH_take (i := 22) (v := .bool true) rfl (by kernel_rfl) (by kernel_rfl) (by kernel_rfl) (fun _ _ _ h => h) (Or.inl ⟨by kernel_rfl, fun w hS => by obtain ⟨s0, s1, s2⟩ := hS; go_simp⟩) hS ?_
          refine wpAnyH_ready (rs := [23]) (by kernel_rfl) (by simp) ?_
          refine readyH_callK (i := 23) rfl (by kernel_rfl) (fun K hK => ?_)
          go_simp
          refine Calls.mono (HAw.out _) ?_
          rintro e w10 ⟨rfl, b10⟩
          refine hK.out _ _ ⟨keepCell b10 hS.1, keepCell b10 hS.2.1, keepCell b10 hS.2.2⟩ (fun hS => ?_)
          clear hK
          refine wpAnyH_take (i := 24) (v := .bool true) rfl (by kernel_rfl) (by kernel_rfl) (by kernel_rfl) (fun _ _ _ h => h) (Or.inl ⟨by kernel_rfl, fun w hS => by obtain ⟨s0, s1, s2⟩ := hS; go_simp⟩) hS ?_
          refine wpAnyH_take (i := 25) (v := .bool true) rfl (by kernel_rfl) (by kernel_rfl) (by kernel_rfl) (fun _ _ _ h => h) (Or.inl ⟨by kernel_rfl, fun w hS => by obtain ⟨s0, s1, s2⟩ := hS; go_simp⟩) hS ?_
          refine wpAnyH_done (by kernel_rfl) ?_ _
          go_wp2
          go_ret
          exact ⟨rfl, chain (chain (chain b8 (below_drewN _ _ _)) (Below.refl _ _).drew) b10⟩
end Go.Proofs.YtocphdikppeijaaGreat
