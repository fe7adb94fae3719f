/- The walk of VlogStable. -/
import Derived.Test.YtjpmnmgnbpecjaaVlSu
import Derived.Test.YtjpmnmgnbpecjaaVlSm
namespace Go.Proofs.Ytjpmnmgnbpecjaa
open Go.Shelf Go.RowKit Go.Lib Go.Sort
open Go.ChangeMaps (setBlock)
set_option linter.unusedSimpArgs false
set_option linter.unusedVariables false
theorem acs_nil (w : World) : Acs w (.slice none 0 0) [] := Or.inl ⟨⟨_, _, rfl⟩, rfl⟩
set_option maxHeartbeats 16000000 in
set_option maxRecDepth 100000 in
theorem stablaw_calls (v1 : Value) (l1 : List Ac) (w : World) (h1 : Acs w v1 l1) :
    Calls Try.prog 7 #[v1] w fun e w' => e = .returned (.bool true) ∧ Below w.heap.size w w' := by
  have HBg := begun_calls (.slice none 0 0) [] w w (acs_nil w) (Below.refl _ _)
  rw [show runs (Lv.new 7) (([] : List Ac).take 80) = Lv.new 7 from rfl] at HBg
  obtain ⟨va, vcap, rfl, hc⟩ := h1.any
  have HC : Hid _ := hc
  clear h1 hc
  go_enter Try.func7, Try.ntmps7
  go_wp2_with fail
  refine HBg.mono ?_
  rintro e w1 ⟨rfl, mp1, A1⟩
  have HA1 : Hid _ := A1
  have hp1 : w.heap.size < w1.heap.size := A1.lg.lt
  clear A1 HBg
  obtain ⟨W2, hW2, X2, Y2, B2⟩ : ∃ W2, (w1.alloc (.cells #[.int .i64 0, .int .i64 0, .int .i64 0, .int .i64 0, .int .i64 0, .int .i64 0, .int .i64 0] 52)).alloc (.cells #[.string ⟨#[]⟩, .string ⟨#[]⟩, .string ⟨#[]⟩, .string ⟨#[]⟩, .string ⟨#[]⟩, .string ⟨#[]⟩, .string ⟨#[]⟩] 53) = W2 ∧ Blk W2 w1.heap.size #[.int .i64 0, .int .i64 0, .int .i64 0, .int .i64 0, .int .i64 0, .int .i64 0, .int .i64 0] 52 ∧ Blk W2 (w1.heap.size + 1) #[.string ⟨#[]⟩, .string ⟨#[]⟩, .string ⟨#[]⟩, .string ⟨#[]⟩, .string ⟨#[]⟩, .string ⟨#[]⟩, .string ⟨#[]⟩] 53 ∧ Below w1.heap.size w1 W2 := ⟨_, rfl, (blk_new _ _ _ _ rfl).alloc _, blk_new _ _ _ _ (by simp), by go_grown⟩
  have HI2 : Hid (Ats w.heap.size w W2 w.heap.size mp1 (Lv.new 7) ∧ SR W2 w1.heap.size (Lv.new 7).ck ∧ (Lv.new 7).n = 7 ∧ (Lv.new 7).lo = 0) := ⟨HA1.out.below B2, ⟨_, _, X2, Y2, rfl, rfl, fun k hk => by
    match k, hk with
    | 0, _ => exact ⟨rfl, rfl⟩
    | 1, _ => exact ⟨rfl, rfl⟩
    | 2, _ => exact ⟨rfl, rfl⟩
    | 3, _ => exact ⟨rfl, rfl⟩
    | 4, _ => exact ⟨rfl, rfl⟩
    | 5, _ => exact ⟨rfl, rfl⟩
    | 6, _ => exact ⟨rfl, rfl⟩⟩, rfl, rfl⟩
  clear X2 Y2 B2 HA1
  go_wp2_with fail
  go_loopw [6] (fun iv wr => ∃ (k : Nat) (mpk : Nat → Option Nat) (M : Lv), k ≤ l1.length ∧ k ≤ 60 ∧ iv = .int .i64 k ∧ Hid (Ats w.heap.size w wr w.heap.size mpk M ∧ SR wr w1.heap.size M.ck ∧ M.n = 7 ∧ M.lo = 0)) (fun iv _ => l1.length - (intOf iv).toNat)
  case atStart => exact ⟨0, mp1, Lv.new 7, by omega, by omega, rfl, HI2⟩
  case round =>
    clear HI2
    obtain ⟨k, mpk, M, hk, hk1, rfl, HI⟩ := hrel
    by_cases hgo : k < l1.length ∧ k < 60
    · obtain ⟨hlt, hlt1⟩ := hgo
      have hd1 : decide ((k : Int) < (l1.length : Int)) = true := by simp only [decide_eq_true_eq]; omega
      have hd2 : decide ((k : Int) < 60) = true := by simp only [decide_eq_true_eq]; omega
      obtain ⟨g, off, hga, _, hg, hcel, hfit⟩ := HC.out k hlt
      subst hga
      have kc : ∀ j u, (Ac.cells l1[k])[j]? = some u → wr.cell? ⟨g, off + k * 6 + j, none⟩ = some u := fun j u hu => (HI.out.1.bel.cell (p := ⟨g, off + k * 6 + j, none⟩) hg).trans (hcel j u hu)
      clear hcel
      generalize l1[k] = A at *
      have e0 : wr.cell? ⟨g, off + k * 6, none⟩ = some (.int .i64 A.kind) := kc 0 _ rfl
      have e1 : wr.cell? ⟨g, off + k * 6 + 1, none⟩ = some (.int .i64 A.frm) := kc 1 _ rfl
      have e2 : wr.cell? ⟨g, off + k * 6 + 2, none⟩ = some (.int .i64 A.vw) := kc 2 _ rfl
      have e3 : wr.cell? ⟨g, off + k * 6 + 3, none⟩ = some (.int .i64 A.sq) := kc 3 _ rfl
      have e4 : wr.cell? ⟨g, off + k * 6 + 4, none⟩ = some (.string A.dg) := kc 4 _ rfl
      have e5 : wr.cell? ⟨g, off + k * 6 + 5, none⟩ = some (.string A.tx) := kc 5 _ rfl
      obtain ⟨W3, hW3, X3, B3⟩ : ∃ W3, wr.alloc (.cells #[.int .i64 4, .int .i64 A.frm, .int .i64 A.vw, .int .i64 A.sq, .string A.dg, .string A.tx] 48) = W3 ∧ Blk W3 wr.heap.size #[.int .i64 4, .int .i64 A.frm, .int .i64 A.vw, .int .i64 A.sq, .string A.dg, .string A.tx] 48 ∧ Below wr.heap.size wr W3 := ⟨_, rfl, blk_new _ _ _ _ rfl, by go_grown⟩
      have HI3 : Hid (Ats w.heap.size w W3 w.heap.size mpk M ∧ SR W3 w1.heap.size M.ck) := ⟨HI.out.1.below B3, HI.out.2.1.below B3⟩
      have HNM : Hid (M.n = 7 ∧ M.lo = 0) := HI.out.2.2
      have HD : Hid _ := done4_calls HI3.out.1.lg HI3.out.1.inv 4 A.frm A.vw A.sq A.dg A.tx (by decide) hfit.1 hfit.2
      have HO : Hid _ := check_ok HI3.out.1.inv HI3.out.1.fl (A.frm, A.tx, ⟨#[115]⟩) 5 A.sq A.dg
      have hcc := check_cases M (A.frm, A.tx, ⟨#[115]⟩) A.sq A.dg
      have hzr : wr.heap.size < W3.heap.size := X3.lt
      have x0 : W3.cell? ⟨wr.heap.size, 0, none⟩ = some (.int .i64 4) := X3.cell rfl
      have x1 : W3.cell? ⟨wr.heap.size, 1, none⟩ = some (.int .i64 A.frm) := X3.cell rfl
      have x2 : W3.cell? ⟨wr.heap.size, 2, none⟩ = some (.int .i64 A.vw) := X3.cell rfl
      have x3 : W3.cell? ⟨wr.heap.size, 3, none⟩ = some (.int .i64 A.sq) := X3.cell rfl
      have x4 : W3.cell? ⟨wr.heap.size, 4, none⟩ = some (.string A.dg) := X3.cell rfl
      have x5 : W3.cell? ⟨wr.heap.size, 5, none⟩ = some (.string A.tx) := X3.cell rfl
      have HX3 : Hid _ := X3
      have hsr : w1.heap.size + 1 < wr.heap.size := HI.out.2.1.lt
      clear kc hfit X3 B3 HI
      rcases hcc with ⟨hcc, hf0, hf1⟩ | ⟨er, hcc, her⟩
      · rw [hcc] at HD HO
        obtain ⟨f, hf⟩ : ∃ f : Nat, (f : Int) = A.frm := ⟨A.frm.toNat, by omega⟩
        have hf7 : f < 7 := by have := HNM.out.1; simp only at hf1; omega
        simp only at hf0 hf1
        go_wp2_with fail
        refine Calls.mono HD.out ?_
        rintro e w4 ⟨rfl, mp4, l4, s4⟩
        have HA4 : Hid _ := Ats.step HI3.out.1 l4 s4 HO.out.1 HO.out.2.1
        have HS4 : Hid (SR w4 w1.heap.size M.ck) := SR.stp HI3.out.2 s4 HI3.out.1.lg hp1
        have hX4 := Stp.keep s4 HI3.out.1.lg HX3.out (by omega)
        have y1 : w4.cell? ⟨wr.heap.size, 1, none⟩ = some (.int .i64 (f : Int)) := by rw [hf]; exact hX4.cell rfl
        have y3 : w4.cell? ⟨wr.heap.size, 3, none⟩ = some (.int .i64 A.sq) := hX4.cell rfl
        have y4 : w4.cell? ⟨wr.heap.size, 4, none⟩ = some (.string A.dg) := hX4.cell rfl
        obtain ⟨t1, t2⟩ := HS4.out.cells hf7
        have t3 : w4.frozen? ⟨w1.heap.size, f, none⟩ = false := by obtain ⟨cs, ds, X, _⟩ := HS4.out; exact X.frozen
        obtain ⟨W5, hW5, Z5, z5f⟩ : ∃ W5, w4.setCell ⟨w1.heap.size, f, none⟩ (.int .i64 A.sq) = W5 ∧ (∀ k, k ≠ w1.heap.size → W5.heap[k]? = w4.heap[k]?) ∧ W5.frozen? ⟨w1.heap.size + 1, f, none⟩ = false := ⟨_, rfl, fun k hk => heap_setCell_other _ _ _ _ (by show k ≠ w1.heap.size; exact hk), by
          obtain ⟨cs, ds, X, Y, _⟩ := HS4.out
          exact Blk.frozen (show Blk _ (w1.heap.size + 1) ds 53 from (heap_setCell_other _ _ _ _ (by show w1.heap.size + 1 ≠ w1.heap.size; omega)).trans Y)⟩
        have r1 : W5.cell? ⟨wr.heap.size, 1, none⟩ = some (.int .i64 (f : Int)) := (World.cell?_of_block (w := w4) (a := ⟨wr.heap.size, 1, none⟩) (Z5 wr.heap.size (by omega))).trans y1
        have r4 : W5.cell? ⟨wr.heap.size, 4, none⟩ = some (.string A.dg) := (World.cell?_of_block (w := w4) (a := ⟨wr.heap.size, 4, none⟩) (Z5 wr.heap.size (by omega))).trans y4
        have r5 : W5.cell? ⟨w1.heap.size + 1, f, none⟩ = some (.string (lastDig M.ck f)) := (World.cell?_of_block (w := w4) (a := ⟨w1.heap.size + 1, f, none⟩) (Z5 (w1.heap.size + 1) (by omega))).trans t2
        obtain ⟨W6, hW6⟩ : ∃ W6, W5.setCell ⟨w1.heap.size + 1, f, none⟩ (.string A.dg) = W6 := ⟨_, rfl⟩
        have HI6 : Hid (Ats w.heap.size w W6 w.heap.size mp4 { M with ck := vput M.ck A.frm (A.sq, A.dg, (A.frm, A.tx, ⟨#[115]⟩)) } ∧ SR W6 w1.heap.size (vput M.ck A.frm (A.sq, A.dg, (A.frm, A.tx, ⟨#[115]⟩)))) := by
          show _ ∧ _
          rw [← hW6, ← hW5]
          constructor
          · obtain ⟨cs, ds, X, Y, _⟩ := HS4.out
            refine (HA4.out.cell X (by decide) (by omega) (by omega) _).cell (cs := ds) (t := 53) ?_ (by decide) (by omega) (by omega) _
            exact (heap_setCell_other _ _ _ _ (by show w1.heap.size + 1 ≠ w1.heap.size; omega)).trans Y
          · have := SR.note HS4.out hf7 A.sq A.dg (A.frm, A.tx, ⟨#[115]⟩)
            rw [hf] at this
            exact this
        have HNM6 : Hid (({ M with ck := vput M.ck A.frm (A.sq, A.dg, (A.frm, A.tx, ⟨#[115]⟩)) } : Lv).n = 7 ∧ ({ M with ck := vput M.ck A.frm (A.sq, A.dg, (A.frm, A.tx, ⟨#[115]⟩)) } : Lv).lo = 0) := HNM.out
        have hfi : (f : Int) < 7 := by omega
        have HF : Hid _ := hf
        generalize hM' : ({ M with ck := vput M.ck A.frm (A.sq, A.dg, (A.frm, A.tx, ⟨#[115]⟩)) } : Lv) = M' at *
        have HI7 : Hid (Ats w.heap.size w W6 w.heap.size mp4 M' ∧ SR W6 w1.heap.size M'.ck ∧ M'.n = 7 ∧ M'.lo = 0) := ⟨HI6.out.1, by have := HI6.out.2; rw [← hM']; exact this, HNM6.out⟩
        clear hX4 l4 s4 x0 x1 x2 x3 x4 x5 HA4 HS4 HI6 HNM6 HI3 HNM hM' hcc hf hf0 hf1 HO HD t2 Z5 HX3
        generalize lastDig M.ck (f : Int) = ld at *
        generalize lastSeq M.ck (f : Int) = ls at *
        have HSt : Hid _ := stable_calls HI7.out.1.lg HI7.out.1.inv
        go_wp2_with fail
        refine Calls.mono HSt.out ?_
        rintro e w7 ⟨s, r, cv, rfl, hst, b7⟩
        obtain ⟨pA, pB, ll, pC, pD, pE⟩ := stb_pure hst HI7.out.2.2.1 HI7.out.2.2.2 (by have := HI7.out.1.inv.ck; rw [HI7.out.2.2.1] at this; exact this)
        have HI8 : Hid (Ats w.heap.size w w7 w.heap.size mp4 M' ∧ SR w7 w1.heap.size M'.ck ∧ M'.n = 7 ∧ M'.lo = 0) := ⟨HI7.out.1.below b7, HI7.out.2.1.below b7, HI7.out.2.2⟩
        have HPA : Hid _ := pA
        have HPB : Hid _ := pB
        have HPC : Hid _ := pC
        have HPD : Hid _ := pD
        have HPE : Hid _ := pE
        clear hst b7 HSt HI7 pA pB pC pD pE
        go_wp2_with fail
        go_loopw [11, 12] (fun nv kv wr => ∃ q : Nat, q ≤ 7 ∧ kv = .int .i64 q ∧ nv = .int .i64 (nct M'.ck q : Nat) ∧ Hid (Below w7.heap.size w7 wr)) (fun nv kv _ => 7 - (intOf kv).toNat)
        case atStart => exact ⟨0, by omega, rfl, rfl, Below.refl _ _⟩
        case round =>
          obtain ⟨q, hq, rfl, rfl, HQ⟩ := hrel
          by_cases hq7 : q < 7
          · have g1 : decide ((q : Int) < 7) = true := by simp only [decide_eq_true_eq]; omega
            have hqi : (q : Int) < 7 := by omega
            have HNq : Hid (nct M'.ck (q + 1) = nct M'.ck q + (if 5 ≤ cntS M'.ck q 7 then 1 else 0)) := rfl
            have hnq := nct_le M'.ck q
            generalize nct M'.ck q = nn at *
            have hwn : IntKind.i64.wrap ((nn : Int) + 1) = (nn : Int) + 1 := by rw [IntKind.wrap_i64]; omega
            go_wp2_with fail
            go_loopw [13, 14] (fun sv jv wr => ∃ j : Nat, j ≤ 7 ∧ jv = .int .i64 j ∧ sv = .int .i64 (cntS M'.ck q j : Nat) ∧ Hid (Below w7.heap.size w7 wr)) (fun sv jv _ => 7 - (intOf jv).toNat)
            case atStart => exact ⟨0, by omega, rfl, rfl, HQ⟩
            case round =>
              clear HQ
              obtain ⟨j, hj, rfl, rfl, HJ⟩ := hrel
              obtain ⟨c1, c2⟩ := (HI8.out.2.1.below HJ.out).cells hq7
              by_cases hj7 : j < 7
              · have g2 : decide ((j : Int) < 7) = true := by simp only [decide_eq_true_eq]; omega
                have hji : (j : Int) < 7 := by omega
                have HCj : Hid (cntS M'.ck q (j + 1) = cntS M'.ck q j + (if hit M'.ck q j = true then 1 else 0)) := rfl
                have hcj := cntS_le M'.ck q j
                obtain ⟨c3, c4⟩ := (HI8.out.2.1.below HJ.out).cells hj7
                unfold hit at HCj
                generalize cntS M'.ck q j = cc at *
                have hwc : IntKind.i64.wrap ((cc : Int) + 1) = (cc : Int) + 1 := by rw [IntKind.wrap_i64]; omega
                generalize lastSeq M'.ck (q : Int) = a1 at *
                generalize lastSeq M'.ck (j : Int) = b1 at *
                generalize lastDig M'.ck (q : Int) = a2 at *
                generalize lastDig M'.ck (j : Int) = b2 at *
                by_cases p1 : 0 < a1
                · have f1 : decide (0 < a1) = true := decide_eq_true p1
                  rw [f1] at HCj
                  by_cases p2 : b1 = a1
                  · subst p2
                    simp only [decide_true, Bool.true_and] at HCj
                    by_cases p3 : b2 = a2
                    · subst p3
                      simp only [decide_true, if_true] at HCj
                      clear p1
                      have d1 : ∀ n, (wr.drewN n).cell? ⟨w1.heap.size, q, none⟩ = _ := fun n => c1
                      have d2 : ∀ n, (wr.drewN n).cell? ⟨w1.heap.size + 1, q, none⟩ = _ := fun n => c2
                      have d3 : ∀ n, (wr.drewN n).cell? ⟨w1.heap.size, j, none⟩ = _ := fun n => c3
                      have d4 : ∀ n, (wr.drewN n).cell? ⟨w1.heap.size + 1, j, none⟩ = _ := fun n => c4
                      clear c1 c2 c3 c4
                      go_wp2_with fail
                      go_quiet (fail)
                      go_wp2
                      exact ⟨⟨j + 1, by omega, by norm_cast, by rw [HCj.out]; push_cast; rfl, HJ.out.trans ((below_dN wr _).mono HJ.out.size)⟩, by simp [intOf]; omega⟩
                    · obtain ⟨f3, f4, f5⟩ := bne_text p3
                      rw [decide_eq_false p3] at HCj
                      simp only [Bool.false_eq_true, if_false, Nat.add_zero] at HCj
                      clear p1 p3
                      have d1 : ∀ n, (wr.drewN n).cell? ⟨w1.heap.size, q, none⟩ = _ := fun n => c1
                      have d2 : ∀ n, (wr.drewN n).cell? ⟨w1.heap.size + 1, q, none⟩ = _ := fun n => c2
                      have d3 : ∀ n, (wr.drewN n).cell? ⟨w1.heap.size, j, none⟩ = _ := fun n => c3
                      have d4 : ∀ n, (wr.drewN n).cell? ⟨w1.heap.size + 1, j, none⟩ = _ := fun n => c4
                      clear c1 c2 c3 c4
                      go_wp2_with fail
                      go_quiet (fail)
                      go_wp2
                      exact ⟨⟨j + 1, by omega, by norm_cast, by rw [HCj.out], HJ.out.trans ((below_dN wr _).mono HJ.out.size)⟩, by simp [intOf]; omega⟩
                  · have f2 : (b1 == a1) = false := by simpa using p2
                    have f3 : decide (b1 = a1) = false := decide_eq_false p2
                    rw [f3] at HCj
                    simp only [Bool.false_and, Bool.and_false, Bool.false_eq_true, if_false, Nat.add_zero] at HCj
                    clear p1 p2
                    have d1 : ∀ n, (wr.drewN n).cell? ⟨w1.heap.size, q, none⟩ = _ := fun n => c1
                    have d2 : ∀ n, (wr.drewN n).cell? ⟨w1.heap.size + 1, q, none⟩ = _ := fun n => c2
                    have d3 : ∀ n, (wr.drewN n).cell? ⟨w1.heap.size, j, none⟩ = _ := fun n => c3
                    have d4 : ∀ n, (wr.drewN n).cell? ⟨w1.heap.size + 1, j, none⟩ = _ := fun n => c4
                    clear c1 c2 c3 c4
                    go_wp2_with fail
                    go_quiet (fail)
                    go_wp2
                    exact ⟨⟨j + 1, by omega, by norm_cast, by rw [HCj.out], HJ.out.trans ((below_dN wr _).mono HJ.out.size)⟩, by simp [intOf]; omega⟩
                · have f1 : decide (0 < a1) = false := decide_eq_false p1
                  rw [f1] at HCj
                  simp only [Bool.false_and, Bool.false_eq_true, if_false, Nat.add_zero] at HCj
                  clear p1
                  have d1 : ∀ n, (wr.drewN n).cell? ⟨w1.heap.size, q, none⟩ = _ := fun n => c1
                  have d2 : ∀ n, (wr.drewN n).cell? ⟨w1.heap.size + 1, q, none⟩ = _ := fun n => c2
                  have d3 : ∀ n, (wr.drewN n).cell? ⟨w1.heap.size, j, none⟩ = _ := fun n => c3
                  have d4 : ∀ n, (wr.drewN n).cell? ⟨w1.heap.size + 1, j, none⟩ = _ := fun n => c4
                  clear c1 c2 c3 c4
                  go_wp2_with fail
                  go_quiet (fail)
                  go_wp2
                  exact ⟨⟨j + 1, by omega, by norm_cast, by rw [HCj.out], HJ.out.trans ((below_dN wr _).mono HJ.out.size)⟩, by simp [intOf]; omega⟩
              · have g2 : decide ((j : Int) < 7) = false := by simp only [decide_eq_false_iff_not]; omega
                have hj8 : j = 7 := by omega
                have hce : cntS M'.ck q j = cntS M'.ck q 7 := by rw [hj8]
                rw [hce]
                clear hce hj8
                have HPq : Hid _ := HPA.out q hq7
                generalize cntS M'.ck q 7 = cc at *
                by_cases h5 : 5 ≤ cc
                · have g3 : decide ((5 : Int) ≤ (cc : Int)) = true := by simp only [decide_eq_true_eq]; omega
                  have g4 : decide (5 ≤ cc) = true := decide_eq_true h5
                  obtain ⟨e1, e2⟩ := HPq.out h5
                  rw [e1] at c1
                  rw [e2] at c2
                  rw [if_pos h5] at HNq
                  clear h5 e1 e2
                  go_wp2
                  exact ⟨⟨q + 1, by omega, by norm_cast, by rw [HNq.out]; push_cast; rfl, HJ⟩, by simp [intOf]; omega⟩
                · have g3 : decide ((5 : Int) ≤ (cc : Int)) = false := by simp only [decide_eq_false_iff_not]; omega
                  have g4 : decide (5 ≤ cc) = false := decide_eq_false h5
                  rw [if_neg h5] at HNq
                  clear h5
                  go_wp2
                  exact ⟨⟨q + 1, by omega, by norm_cast, by rw [HNq.out]; rfl, HJ⟩, by simp [intOf]; omega⟩
          · have g1 : decide ((q : Int) < 7) = false := by simp only [decide_eq_false_iff_not]; omega
            have hq8 : q = 7 := by omega
            have hne : nct M'.ck q = nct M'.ck 7 := by rw [hq8]
            rw [hne]
            obtain ⟨wq, hwq⟩ : ∃ wq, wq = wr := ⟨wr, rfl⟩
            subst hwq
            obtain ⟨ca, cc, hcv, hcl⟩ := Sgr.cells HPC.out
            subst hcv
            have HCl : Hid _ := hcl
            have hpb := HPB.out
            clear hcl hne hq8
            generalize nct M'.ck 7 = nn at *
            rcases HPE.out with ⟨l0, s0⟩ | ⟨l5, s5⟩
            · have n0 : nn = 0 := hpb.2 s0
              subst s0 n0
              rw [l0]
              clear l0 hpb
              go_wp2_with fail
              go_loopw [15] (fun zv wr => zv = .int .i64 1 ∧ Hid (Below w7.heap.size w7 wr)) (fun _ _ => 0)
              case atStart => exact ⟨rfl, HQ⟩
              case round =>
                clear HQ
                obtain ⟨rfl, HZ⟩ := hrel
                go_wp2
                exact ⟨⟨k + 1, mp4, M', by omega, by omega, by norm_cast, ⟨HI8.out.1.below HZ.out, HI8.out.2.1.below HZ.out, HI8.out.2.2⟩⟩, by simp [intOf]; omega⟩
            · have nn0 : ¬ nn = 0 := fun e => s5 (hpb.1 e)
              have q1 : ((nn : Int) == 0) = false := by simpa using nn0
              have q2 : (s == 0) = false := by simpa using s5
              have q3 : decide (nn = 0) = false := decide_eq_false nn0
              have q4 : (nn == 0) = false := by simpa using nn0
              have q5 : decide (s = 0) = false := decide_eq_false s5
              have HL5 : Hid _ := l5
              rw [l5]
              clear l5 hpb nn0 s5
              go_wp2_with fail
              go_loopw [15] (fun zv wr => ∃ z : Nat, 1 ≤ z ∧ z ≤ 5 ∧ zv = .int .i64 z ∧ Hid (Below w7.heap.size w7 wr)) (fun zv _ => 5 - (intOf zv).toNat)
              case atStart => exact ⟨1, by omega, by omega, rfl, HQ⟩
              case round =>
                obtain ⟨z, hz1, hz5, rfl, HZ⟩ := hrel
                by_cases hz : z < 5
                · have g5 : decide ((z : Int) < 5) = true := by simp only [decide_eq_true_eq]; omega
                  have hzi : (z : Int) < 5 := by omega
                  obtain ⟨z1, hzz⟩ : ∃ z1, z = z1 + 1 := ⟨z - 1, by omega⟩
                  obtain ⟨m, hm⟩ : ∃ m, ll[z]? = some m := ⟨_, List.getElem?_eq_getElem (by rw [HL5.out]; exact hz)⟩
                  obtain ⟨m', hm'⟩ : ∃ m', ll[z1]? = some m' := ⟨_, List.getElem?_eq_getElem (by rw [HL5.out]; omega)⟩
                  have hlt9 : m'.1 < m.1 := by
                    have hpd := HPD.out
                    rw [List.pairwise_iff_getElem] at hpd
                    obtain ⟨i1, j1⟩ := List.getElem?_eq_some_iff.1 hm'
                    obtain ⟨i2, j2⟩ := List.getElem?_eq_some_iff.1 hm
                    have := hpd z1 z i1 i2 (by omega)
                    rw [j1, j2] at this
                    exact this
                  obtain ⟨cg, hcg, hcb, k1, _⟩ := HCl.out z m hm
                  obtain ⟨cg', hcg', _, k2, _⟩ := HCl.out z1 m' hm'
                  rw [hcg] at hcg'
                  injection hcg' with e1
                  injection e1 with e1
                  subst e1
                  subst hcg
                  have k3 : ∀ n, (wr.drewN n).cell? ⟨cg, z * 3, none⟩ = some (.int .i64 m.1) := fun n => (HZ.out.cell (p := ⟨cg, z * 3, none⟩) hcb).trans k1
                  have k4 : ∀ n, (wr.drewN n).cell? ⟨cg, z1 * 3, none⟩ = some (.int .i64 m'.1) := fun n => (HZ.out.cell (p := ⟨cg, z1 * 3, none⟩) hcb).trans k2
                  have g6 : decide (m.1 ≤ m'.1) = false := by simp only [decide_eq_false_iff_not]; omega
                  have hwz : IntKind.i64.wrap ((z : Int) - 1) = (z1 : Int) := by rw [IntKind.wrap_i64]; omega
                  have hz1i : (z1 : Int) < 5 := by omega
                  have k5 := k3 0
                  have k6 := k4 0
                  have HZx : Hid (∀ n, Below w7.heap.size w7 (wr.drewN n)) := fun n => HZ.out.trans ((below_dN wr n).mono HZ.out.size)
                  clear hm hm' hlt9 k1 k2 hzz hcb
                  generalize m.1 = mm at *
                  generalize m'.1 = mn at *
                  clear HQ
                  go_wp2_with fail
                  go_quiet (fail)
                  go_wp2
                  exact ⟨⟨z + 1, by omega, by omega, by norm_cast, HZx.out _⟩, by simp [intOf]; omega⟩
                · have g5 : decide ((z : Int) < 5) = false := by simp only [decide_eq_false_iff_not]; omega
                  clear HQ
                  go_wp2
                  exact ⟨⟨k + 1, mp4, M', by omega, by omega, by norm_cast, ⟨HI8.out.1.below HZ.out, HI8.out.2.1.below HZ.out, HI8.out.2.2⟩⟩, by simp [intOf]; omega⟩
      · rw [hcc] at HD HO
        have hne : (er == 0) = false := by simpa using her
        go_wp2_with fail
        refine Calls.mono HD.out ?_
        rintro e w4 ⟨rfl, mp4, l4, s4⟩
        have HI7 : Hid (Ats w.heap.size w w4 w.heap.size mp4 M ∧ SR w4 w1.heap.size M.ck ∧ M.n = 7 ∧ M.lo = 0) := ⟨Ats.step HI3.out.1 l4 s4 HO.out.1 HO.out.2.1, SR.stp HI3.out.2 s4 HI3.out.1.lg hp1, HNM.out⟩
        have HSt : Hid _ := stable_calls HI7.out.1.lg HI7.out.1.inv
        clear l4 s4 x0 x1 x2 x3 x4 x5 HI3 HNM hcc HO HD HX3
        go_wp2_with fail
        refine Calls.mono HSt.out ?_
        rintro e w7 ⟨s, r, cv, rfl, hst, b7⟩
        obtain ⟨pA, pB, ll, pC, pD, pE⟩ := stb_pure hst HI7.out.2.2.1 HI7.out.2.2.2 (by have := HI7.out.1.inv.ck; rw [HI7.out.2.2.1] at this; exact this)
        have HI8 : Hid (Ats w.heap.size w w7 w.heap.size mp4 M ∧ SR w7 w1.heap.size M.ck ∧ M.n = 7 ∧ M.lo = 0) := ⟨HI7.out.1.below b7, HI7.out.2.1.below b7, HI7.out.2.2⟩
        have HPA : Hid _ := pA
        have HPB : Hid _ := pB
        have HPC : Hid _ := pC
        have HPD : Hid _ := pD
        have HPE : Hid _ := pE
        clear hst b7 HSt HI7 pA pB pC pD pE
        go_wp2_with fail
        go_loopw [11, 12] (fun nv kv wr => ∃ q : Nat, q ≤ 7 ∧ kv = .int .i64 q ∧ nv = .int .i64 (nct M.ck q : Nat) ∧ Hid (Below w7.heap.size w7 wr)) (fun nv kv _ => 7 - (intOf kv).toNat)
        case atStart => exact ⟨0, by omega, rfl, rfl, Below.refl _ _⟩
        case round =>
          obtain ⟨q, hq, rfl, rfl, HQ⟩ := hrel
          by_cases hq7 : q < 7
          · have g1 : decide ((q : Int) < 7) = true := by simp only [decide_eq_true_eq]; omega
            have hqi : (q : Int) < 7 := by omega
            have HNq : Hid (nct M.ck (q + 1) = nct M.ck q + (if 5 ≤ cntS M.ck q 7 then 1 else 0)) := rfl
            have hnq := nct_le M.ck q
            generalize nct M.ck q = nn at *
            have hwn : IntKind.i64.wrap ((nn : Int) + 1) = (nn : Int) + 1 := by rw [IntKind.wrap_i64]; omega
            go_wp2_with fail
            go_loopw [13, 14] (fun sv jv wr => ∃ j : Nat, j ≤ 7 ∧ jv = .int .i64 j ∧ sv = .int .i64 (cntS M.ck q j : Nat) ∧ Hid (Below w7.heap.size w7 wr)) (fun sv jv _ => 7 - (intOf jv).toNat)
            case atStart => exact ⟨0, by omega, rfl, rfl, HQ⟩
            case round =>
              clear HQ
              obtain ⟨j, hj, rfl, rfl, HJ⟩ := hrel
              obtain ⟨c1, c2⟩ := (HI8.out.2.1.below HJ.out).cells hq7
              by_cases hj7 : j < 7
              · have g2 : decide ((j : Int) < 7) = true := by simp only [decide_eq_true_eq]; omega
                have hji : (j : Int) < 7 := by omega
                have HCj : Hid (cntS M.ck q (j + 1) = cntS M.ck q j + (if hit M.ck q j = true then 1 else 0)) := rfl
                have hcj := cntS_le M.ck q j
                obtain ⟨c3, c4⟩ := (HI8.out.2.1.below HJ.out).cells hj7
                unfold hit at HCj
                generalize cntS M.ck q j = cc at *
                have hwc : IntKind.i64.wrap ((cc : Int) + 1) = (cc : Int) + 1 := by rw [IntKind.wrap_i64]; omega
                generalize lastSeq M.ck (q : Int) = a1 at *
                generalize lastSeq M.ck (j : Int) = b1 at *
                generalize lastDig M.ck (q : Int) = a2 at *
                generalize lastDig M.ck (j : Int) = b2 at *
                by_cases p1 : 0 < a1
                · have f1 : decide (0 < a1) = true := decide_eq_true p1
                  rw [f1] at HCj
                  by_cases p2 : b1 = a1
                  · subst p2
                    simp only [decide_true, Bool.true_and] at HCj
                    by_cases p3 : b2 = a2
                    · subst p3
                      simp only [decide_true, if_true] at HCj
                      clear p1
                      have d1 : ∀ n, (wr.drewN n).cell? ⟨w1.heap.size, q, none⟩ = _ := fun n => c1
                      have d2 : ∀ n, (wr.drewN n).cell? ⟨w1.heap.size + 1, q, none⟩ = _ := fun n => c2
                      have d3 : ∀ n, (wr.drewN n).cell? ⟨w1.heap.size, j, none⟩ = _ := fun n => c3
                      have d4 : ∀ n, (wr.drewN n).cell? ⟨w1.heap.size + 1, j, none⟩ = _ := fun n => c4
                      clear c1 c2 c3 c4
                      go_wp2_with fail
                      go_quiet (fail)
                      go_wp2
                      exact ⟨⟨j + 1, by omega, by norm_cast, by rw [HCj.out]; push_cast; rfl, HJ.out.trans ((below_dN wr _).mono HJ.out.size)⟩, by simp [intOf]; omega⟩
                    · obtain ⟨f3, f4, f5⟩ := bne_text p3
                      rw [decide_eq_false p3] at HCj
                      simp only [Bool.false_eq_true, if_false, Nat.add_zero] at HCj
                      clear p1 p3
                      have d1 : ∀ n, (wr.drewN n).cell? ⟨w1.heap.size, q, none⟩ = _ := fun n => c1
                      have d2 : ∀ n, (wr.drewN n).cell? ⟨w1.heap.size + 1, q, none⟩ = _ := fun n => c2
                      have d3 : ∀ n, (wr.drewN n).cell? ⟨w1.heap.size, j, none⟩ = _ := fun n => c3
                      have d4 : ∀ n, (wr.drewN n).cell? ⟨w1.heap.size + 1, j, none⟩ = _ := fun n => c4
                      clear c1 c2 c3 c4
                      go_wp2_with fail
                      go_quiet (fail)
                      go_wp2
                      exact ⟨⟨j + 1, by omega, by norm_cast, by rw [HCj.out], HJ.out.trans ((below_dN wr _).mono HJ.out.size)⟩, by simp [intOf]; omega⟩
                  · have f2 : (b1 == a1) = false := by simpa using p2
                    have f3 : decide (b1 = a1) = false := decide_eq_false p2
                    rw [f3] at HCj
                    simp only [Bool.false_and, Bool.and_false, Bool.false_eq_true, if_false, Nat.add_zero] at HCj
                    clear p1 p2
                    have d1 : ∀ n, (wr.drewN n).cell? ⟨w1.heap.size, q, none⟩ = _ := fun n => c1
                    have d2 : ∀ n, (wr.drewN n).cell? ⟨w1.heap.size + 1, q, none⟩ = _ := fun n => c2
                    have d3 : ∀ n, (wr.drewN n).cell? ⟨w1.heap.size, j, none⟩ = _ := fun n => c3
                    have d4 : ∀ n, (wr.drewN n).cell? ⟨w1.heap.size + 1, j, none⟩ = _ := fun n => c4
                    clear c1 c2 c3 c4
                    go_wp2_with fail
                    go_quiet (fail)
                    go_wp2
                    exact ⟨⟨j + 1, by omega, by norm_cast, by rw [HCj.out], HJ.out.trans ((below_dN wr _).mono HJ.out.size)⟩, by simp [intOf]; omega⟩
                · have f1 : decide (0 < a1) = false := decide_eq_false p1
                  rw [f1] at HCj
                  simp only [Bool.false_and, Bool.false_eq_true, if_false, Nat.add_zero] at HCj
                  clear p1
                  have d1 : ∀ n, (wr.drewN n).cell? ⟨w1.heap.size, q, none⟩ = _ := fun n => c1
                  have d2 : ∀ n, (wr.drewN n).cell? ⟨w1.heap.size + 1, q, none⟩ = _ := fun n => c2
                  have d3 : ∀ n, (wr.drewN n).cell? ⟨w1.heap.size, j, none⟩ = _ := fun n => c3
                  have d4 : ∀ n, (wr.drewN n).cell? ⟨w1.heap.size + 1, j, none⟩ = _ := fun n => c4
                  clear c1 c2 c3 c4
                  go_wp2_with fail
                  go_quiet (fail)
                  go_wp2
                  exact ⟨⟨j + 1, by omega, by norm_cast, by rw [HCj.out], HJ.out.trans ((below_dN wr _).mono HJ.out.size)⟩, by simp [intOf]; omega⟩
              · have g2 : decide ((j : Int) < 7) = false := by simp only [decide_eq_false_iff_not]; omega
                have hj8 : j = 7 := by omega
                have hce : cntS M.ck q j = cntS M.ck q 7 := by rw [hj8]
                rw [hce]
                clear hce hj8
                have HPq : Hid _ := HPA.out q hq7
                generalize cntS M.ck q 7 = cc at *
                by_cases h5 : 5 ≤ cc
                · have g3 : decide ((5 : Int) ≤ (cc : Int)) = true := by simp only [decide_eq_true_eq]; omega
                  have g4 : decide (5 ≤ cc) = true := decide_eq_true h5
                  obtain ⟨e1, e2⟩ := HPq.out h5
                  rw [e1] at c1
                  rw [e2] at c2
                  rw [if_pos h5] at HNq
                  clear h5 e1 e2
                  go_wp2
                  exact ⟨⟨q + 1, by omega, by norm_cast, by rw [HNq.out]; push_cast; rfl, HJ⟩, by simp [intOf]; omega⟩
                · have g3 : decide ((5 : Int) ≤ (cc : Int)) = false := by simp only [decide_eq_false_iff_not]; omega
                  have g4 : decide (5 ≤ cc) = false := decide_eq_false h5
                  rw [if_neg h5] at HNq
                  clear h5
                  go_wp2
                  exact ⟨⟨q + 1, by omega, by norm_cast, by rw [HNq.out]; rfl, HJ⟩, by simp [intOf]; omega⟩
          · have g1 : decide ((q : Int) < 7) = false := by simp only [decide_eq_false_iff_not]; omega
            have hq8 : q = 7 := by omega
            have hne : nct M.ck q = nct M.ck 7 := by rw [hq8]
            rw [hne]
            obtain ⟨wq, hwq⟩ : ∃ wq, wq = wr := ⟨wr, rfl⟩
            subst hwq
            obtain ⟨ca, cc, hcv, hcl⟩ := Sgr.cells HPC.out
            subst hcv
            have HCl : Hid _ := hcl
            have hpb := HPB.out
            clear hcl hne hq8
            generalize nct M.ck 7 = nn at *
            rcases HPE.out with ⟨l0, s0⟩ | ⟨l5, s5⟩
            · have n0 : nn = 0 := hpb.2 s0
              subst s0 n0
              rw [l0]
              clear l0 hpb
              go_wp2_with fail
              go_loopw [15] (fun zv wr => zv = .int .i64 1 ∧ Hid (Below w7.heap.size w7 wr)) (fun _ _ => 0)
              case atStart => exact ⟨rfl, HQ⟩
              case round =>
                clear HQ
                obtain ⟨rfl, HZ⟩ := hrel
                go_wp2
                exact ⟨⟨k + 1, mp4, M, by omega, by omega, by norm_cast, ⟨HI8.out.1.below HZ.out, HI8.out.2.1.below HZ.out, HI8.out.2.2⟩⟩, by simp [intOf]; omega⟩
            · have nn0 : ¬ nn = 0 := fun e => s5 (hpb.1 e)
              have q1 : ((nn : Int) == 0) = false := by simpa using nn0
              have q2 : (s == 0) = false := by simpa using s5
              have q3 : decide (nn = 0) = false := decide_eq_false nn0
              have q4 : (nn == 0) = false := by simpa using nn0
              have q5 : decide (s = 0) = false := decide_eq_false s5
              have HL5 : Hid _ := l5
              rw [l5]
              clear l5 hpb nn0 s5
              go_wp2_with fail
              go_loopw [15] (fun zv wr => ∃ z : Nat, 1 ≤ z ∧ z ≤ 5 ∧ zv = .int .i64 z ∧ Hid (Below w7.heap.size w7 wr)) (fun zv _ => 5 - (intOf zv).toNat)
              case atStart => exact ⟨1, by omega, by omega, rfl, HQ⟩
              case round =>
                obtain ⟨z, hz1, hz5, rfl, HZ⟩ := hrel
                by_cases hz : z < 5
                · have g5 : decide ((z : Int) < 5) = true := by simp only [decide_eq_true_eq]; omega
                  have hzi : (z : Int) < 5 := by omega
                  obtain ⟨z1, hzz⟩ : ∃ z1, z = z1 + 1 := ⟨z - 1, by omega⟩
                  obtain ⟨m, hm⟩ : ∃ m, ll[z]? = some m := ⟨_, List.getElem?_eq_getElem (by rw [HL5.out]; exact hz)⟩
                  obtain ⟨m', hm'⟩ : ∃ m', ll[z1]? = some m' := ⟨_, List.getElem?_eq_getElem (by rw [HL5.out]; omega)⟩
                  have hlt9 : m'.1 < m.1 := by
                    have hpd := HPD.out
                    rw [List.pairwise_iff_getElem] at hpd
                    obtain ⟨i1, j1⟩ := List.getElem?_eq_some_iff.1 hm'
                    obtain ⟨i2, j2⟩ := List.getElem?_eq_some_iff.1 hm
                    have := hpd z1 z i1 i2 (by omega)
                    rw [j1, j2] at this
                    exact this
                  obtain ⟨cg, hcg, hcb, k1, _⟩ := HCl.out z m hm
                  obtain ⟨cg', hcg', _, k2, _⟩ := HCl.out z1 m' hm'
                  rw [hcg] at hcg'
                  injection hcg' with e1
                  injection e1 with e1
                  subst e1
                  subst hcg
                  have k3 : ∀ n, (wr.drewN n).cell? ⟨cg, z * 3, none⟩ = some (.int .i64 m.1) := fun n => (HZ.out.cell (p := ⟨cg, z * 3, none⟩) hcb).trans k1
                  have k4 : ∀ n, (wr.drewN n).cell? ⟨cg, z1 * 3, none⟩ = some (.int .i64 m'.1) := fun n => (HZ.out.cell (p := ⟨cg, z1 * 3, none⟩) hcb).trans k2
                  have g6 : decide (m.1 ≤ m'.1) = false := by simp only [decide_eq_false_iff_not]; omega
                  have hwz : IntKind.i64.wrap ((z : Int) - 1) = (z1 : Int) := by rw [IntKind.wrap_i64]; omega
                  have hz1i : (z1 : Int) < 5 := by omega
                  have k5 := k3 0
                  have k6 := k4 0
                  have HZx : Hid (∀ n, Below w7.heap.size w7 (wr.drewN n)) := fun n => HZ.out.trans ((below_dN wr n).mono HZ.out.size)
                  clear hm hm' hlt9 k1 k2 hzz hcb
                  generalize m.1 = mm at *
                  generalize m'.1 = mn at *
                  clear HQ
                  go_wp2_with fail
                  go_quiet (fail)
                  go_wp2
                  exact ⟨⟨z + 1, by omega, by omega, by norm_cast, HZx.out _⟩, by simp [intOf]; omega⟩
                · have g5 : decide ((z : Int) < 5) = false := by simp only [decide_eq_false_iff_not]; omega
                  clear HQ
                  go_wp2
                  exact ⟨⟨k + 1, mp4, M, by omega, by omega, by norm_cast, ⟨HI8.out.1.below HZ.out, HI8.out.2.1.below HZ.out, HI8.out.2.2⟩⟩, by simp [intOf]; omega⟩
    · by_cases h1 : k < l1.length
      · have hd1 : decide ((k : Int) < (l1.length : Int)) = true := by simp only [decide_eq_true_eq]; omega
        have hd2 : decide ((k : Int) < 60) = false := by simp only [decide_eq_false_iff_not]; omega
        go_wp2_with fail
        refine (awake_calls _).mono ?_
        rintro e w9 ⟨rfl, b9⟩
        go_wp2
        go_ret
        exact ⟨rfl, HI.out.1.bel.trans (b9.mono HI.out.1.sz)⟩
      · have hd1 : decide ((k : Int) < (l1.length : Int)) = false := by simp only [decide_eq_false_iff_not]; omega
        go_wp2_with fail
        refine (awake_calls _).mono ?_
        rintro e w9 ⟨rfl, b9⟩
        go_wp2
        go_ret
        exact ⟨rfl, HI.out.1.bel.trans (b9.mono HI.out.1.sz)⟩
end Go.Proofs.Ytjpmnmgnbpecjaa
