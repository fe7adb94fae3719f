/- The example of chapter 9. -/
import Derived.Test.YtladgfngddgnlaaGreatDoorHy40
import Derived.Deep.DeepCutAuto
import Derived.Deep.CutBlock
import Derived.Deep.RegionHeld3
import Derived.Deep.RegionHeld
namespace Go.Proofs.YtladgfngddgnlaaGreatDoor
open Go.RowKit
set_option linter.unusedSimpArgs false
set_option linter.unusedVariables false

def rowE : Array Value := #[.int .i64 0, .int .i64 0, .int .i64 2, .int .i64 0, .int .i64 6400, .int .i64 0, .int .i64 0, .float .f64 0, .bool false, .string ⟨#[]⟩, .int .i64 1, .int .i64 0, .int .i64 4, .int .i64 0, .int .i64 5, .int .i64 0, .int .i64 0, .float .f64 0, .bool false, .string ⟨#[]⟩, .int .i64 0, .int .i64 0, .int .i64 8, .int .i64 0, .int .i64 5, .int .i64 0, .int .i64 1, .float .f64 4611686018427387904, .bool false, .string ⟨#[]⟩, .int .i64 1, .int .i64 0, .int .i64 8, .int .i64 0, .int .i64 3, .int .i64 1, .int .i64 1, .float .f64 4609434218613702656, .bool false, .string ⟨#[]⟩, .int .i64 0, .int .i64 0, .int .i64 1, .int .i64 0, .int .i64 0, .int .i64 0, .int .i64 0, .float .f64 0, .bool false, .string ⟨#[]⟩]
def esN : Nat → Hs
  | 0 => es0
  | 1 => es1
  | 2 => es2
  | 3 => es3
  | 4 => es4
  | _ => es5
set_option maxRecDepth 100000 in
set_option maxHeartbeats 4000000 in
theorem awake_calls (w : World) : Calls Tryz.prog 10 #[] w fun e w' => e = .returned (.bool true) ∧ Below w.heap.size w w' := by
  have HN : Hid _ := new_hs 2 1 w (by decide) (by decide) (by decide) (by decide)
  go_enter Tryz.func10, Tryz.ntmps10
  go_wp2_with fail
  refine Calls.mono HN.out ?_
  rintro e w1 ⟨X, rfl, hm, b1⟩
  obtain ⟨W2, hW2, R2, B2⟩ : ∃ W2, (w1.alloc (.cells #[.int .i64 0, .int .i64 0, .int .i64 2, .int .i64 0, .int .i64 6400, .int .i64 0, .int .i64 0, .float .f64 0, .bool false, .string ⟨#[]⟩, .int .i64 1, .int .i64 0, .int .i64 4, .int .i64 0, .int .i64 5, .int .i64 0, .int .i64 0, .float .f64 0, .bool false, .string ⟨#[]⟩, .int .i64 0, .int .i64 0, .int .i64 8, .int .i64 0, .int .i64 5, .int .i64 0, .int .i64 1, .float .f64 4611686018427387904, .bool false, .string ⟨#[]⟩, .int .i64 1, .int .i64 0, .int .i64 8, .int .i64 0, .int .i64 3, .int .i64 1, .int .i64 1, .float .f64 4609434218613702656, .bool false, .string ⟨#[]⟩, .int .i64 0, .int .i64 0, .int .i64 1, .int .i64 0, .int .i64 0, .int .i64 0, .int .i64 0, .float .f64 0, .bool false, .string ⟨#[]⟩] 27)) = W2 ∧ Blk W2 w1.heap.size rowE 27 ∧ Below w1.heap.size w1 W2 := ⟨_, rfl, blk_new _ _ _ _ rfl, by go_grown⟩
  have hz1 := b1.size
  have HI : Hid (∃ X', Hm W2 w.heap.size X' (esN 0) ∧ X'.p = X.p ∧ Blk W2 w1.heap.size rowE 27 ∧ Below w.heap.size w W2) := ⟨X, hm.below B2, rfl, R2, b1.trans (B2.mono hz1)⟩
  clear hm b1 R2 B2 HN
  go_wp2_with fail
  go_loopw [4] (fun iv wr => ∃ k : Nat, k ≤ 5 ∧ iv = .int .i64 k ∧ Hid (∃ X', Hm wr w.heap.size X' (esN k) ∧ X'.p = X.p ∧ Blk wr w1.heap.size rowE 27 ∧ Below w.heap.size w wr)) (fun iv _ => 5 - (intOf iv).toNat)
  case atStart => exact ⟨0, by omega, rfl, HI⟩
  case round =>
    clear HI hW2
    obtain ⟨k, hk, rfl, HR⟩ := hrel
    by_cases hlt : k < 5
    · have hcs : k = 0 ∨ k = 1 ∨ k = 2 ∨ k = 3 ∨ k = 4 := by omega
      clear hlt hk
      rcases hcs with rfl | rfl | rfl | rfl | rfl
      · obtain ⟨X1, m1, p1, r1, bb⟩ := HR.out
        clear HR
        have d0 : wr.cell? ⟨w1.heap.size, 0, none⟩ = some (.int .i64 0) := r1.cell rfl
        have d1 : wr.cell? ⟨w1.heap.size, 1, none⟩ = some (.int .i64 0) := r1.cell rfl
        have d2 : wr.cell? ⟨w1.heap.size, 2, none⟩ = some (.int .i64 2) := r1.cell rfl
        have d3 : wr.cell? ⟨w1.heap.size, 3, none⟩ = some (.int .i64 0) := r1.cell rfl
        have d4 : wr.cell? ⟨w1.heap.size, 4, none⟩ = some (.int .i64 6400) := r1.cell rfl
        have d5 : wr.cell? ⟨w1.heap.size, 5, none⟩ = some (.int .i64 0) := r1.cell rfl
        have d6 : wr.cell? ⟨w1.heap.size, 6, none⟩ = some (.int .i64 0) := r1.cell rfl
        have d7 : wr.cell? ⟨w1.heap.size, 7, none⟩ = some (.float .f64 0) := r1.cell rfl
        have d8 : wr.cell? ⟨w1.heap.size, 8, none⟩ = some (.bool false) := r1.cell rfl
        have d9 : wr.cell? ⟨w1.heap.size, 9, none⟩ = some (.string ⟨#[]⟩) := r1.cell rfl
        have hnf : ¬ X1.foot w1.heap.size := m1.foot_typ r1 (by decide)
        have HM : Hid (Hm wr w.heap.size X1 es0) := m1
        have HX : Hid (X1.p = X.p ∧ Blk wr w1.heap.size rowE 27 ∧ Below w.heap.size w wr) := ⟨p1, r1, bb⟩
        have hzr := bb.size
        have HTx : Hid _ := fun wx => text_hs ea0 wx (by decide)
        rw [ea0_text] at HTx
        have HTX : Hid (∀ wx, Calls Tryz.prog 9 #[.agg #[.int .i64 0, .int .i64 0, .int .i64 2, .int .i64 0, .int .i64 6400, .int .i64 0, .int .i64 0, .float .f64 0, .bool false, .string ⟨#[]⟩]] wx fun e w' => e = .returned (.string ⟨(opB eo0).toArray⟩) ∧ Below wx.heap.size wx w') := HTx.out
        have HDo : Hid _ := fun wx h hB => edo0 (base := w.heap.size) wx (X := X1) h hB
        rw [p1] at HDo
        generalize (⟨(opB eo0).toArray⟩ : ByteArray) = tx at *
        clear m1 p1 r1 bb HTx
        go_upto_region 8 with fail
        refine wp_region_held_drew (S := (fun wx => Chg X1.foot wr wx)) (by kernel_rfl) (Chg.of_below (Below.refl wr.heap.size wr) : Chg X1.foot wr wr).drew (fun hS => ?_)
        refine tkG (i := 0) (v := .pointer (some ⟨X.p, 0, none⟩)) rfl hS ?_
        refine tkG (i := 1) (v := .slice (some ⟨w1.heap.size, 0, none⟩) 5 5) rfl hS ?_
        refine tkG (i := 2) (v := .int .i64 0) rfl hS ?_
        refine tkG (i := 3) (v := .pointer (some ⟨w1.heap.size, 0, none⟩)) rfl hS ?_
        refine tkG (i := 4) (v := .pointer (some ⟨w1.heap.size, 0, none⟩)) rfl hS ?_
        refine tkH (i := 5) (v := .int .i64 0) rfl (fun w3 hS => by have f0 : w3.cell? ⟨w1.heap.size, 0, none⟩ = some (.int .i64 0) := Chg.cell hS d0 hnf; have f1 : w3.cell? ⟨w1.heap.size, 1, none⟩ = some (.int .i64 0) := Chg.cell hS d1 hnf; have f2 : w3.cell? ⟨w1.heap.size, 2, none⟩ = some (.int .i64 2) := Chg.cell hS d2 hnf; have f3 : w3.cell? ⟨w1.heap.size, 3, none⟩ = some (.int .i64 0) := Chg.cell hS d3 hnf; have f4 : w3.cell? ⟨w1.heap.size, 4, none⟩ = some (.int .i64 6400) := Chg.cell hS d4 hnf; have f5 : w3.cell? ⟨w1.heap.size, 5, none⟩ = some (.int .i64 0) := Chg.cell hS d5 hnf; have f6 : w3.cell? ⟨w1.heap.size, 6, none⟩ = some (.int .i64 0) := Chg.cell hS d6 hnf; have f7 : w3.cell? ⟨w1.heap.size, 7, none⟩ = some (.float .f64 0) := Chg.cell hS d7 hnf; have f8 : w3.cell? ⟨w1.heap.size, 8, none⟩ = some (.bool false) := Chg.cell hS d8 hnf; have f9 : w3.cell? ⟨w1.heap.size, 9, none⟩ = some (.string ⟨#[]⟩) := Chg.cell hS d9 hnf; go_simp) hS ?_
        refine tkG (i := 6) (v := .int .i64 0) rfl hS ?_
        refine tkH (i := 7) (v := .int .i64 1) rfl (fun w3 hS => by go_simp; first | done | decide) hS ?_
        refine tkG (i := 8) (v := .slice (some ⟨w1.heap.size, 0, none⟩) 5 5) rfl hS ?_
        refine tkG (i := 9) (v := .int .i64 0) rfl hS ?_
        refine tkG (i := 10) (v := .pointer (some ⟨w1.heap.size, 0, none⟩)) rfl hS ?_
        refine tkH (i := 11) (v := .agg #[.int .i64 0, .int .i64 0, .int .i64 2, .int .i64 0, .int .i64 6400, .int .i64 0, .int .i64 0, .float .f64 0, .bool false, .string ⟨#[]⟩]) rfl (fun w3 hS => by have f0 : w3.cell? ⟨w1.heap.size, 0, none⟩ = some (.int .i64 0) := Chg.cell hS d0 hnf; have f1 : w3.cell? ⟨w1.heap.size, 1, none⟩ = some (.int .i64 0) := Chg.cell hS d1 hnf; have f2 : w3.cell? ⟨w1.heap.size, 2, none⟩ = some (.int .i64 2) := Chg.cell hS d2 hnf; have f3 : w3.cell? ⟨w1.heap.size, 3, none⟩ = some (.int .i64 0) := Chg.cell hS d3 hnf; have f4 : w3.cell? ⟨w1.heap.size, 4, none⟩ = some (.int .i64 6400) := Chg.cell hS d4 hnf; have f5 : w3.cell? ⟨w1.heap.size, 5, none⟩ = some (.int .i64 0) := Chg.cell hS d5 hnf; have f6 : w3.cell? ⟨w1.heap.size, 6, none⟩ = some (.int .i64 0) := Chg.cell hS d6 hnf; have f7 : w3.cell? ⟨w1.heap.size, 7, none⟩ = some (.float .f64 0) := Chg.cell hS d7 hnf; have f8 : w3.cell? ⟨w1.heap.size, 8, none⟩ = some (.bool false) := Chg.cell hS d8 hnf; have f9 : w3.cell? ⟨w1.heap.size, 9, none⟩ = some (.string ⟨#[]⟩) := Chg.cell hS d9 hnf; go_simp) hS ?_
        refine wpAnyH_ready (rs := [12]) (by kernel_rfl) (by simp) ?_
        refine AllReadyH.cons rfl (fun K hK => ?_) AllReadyH.nil
        go_simp
        refine (HTX.out _).mono ?_
        rintro e w2 ⟨rfl, b2⟩
        have b2' : Below wr.heap.size wr w2 := ⟨b2.os, b2.tape, b2.output, b2.size, b2.block⟩
        have C2 : Chg X1.foot wr w2 := Chg.of_below b2'
        refine hK.out _ _ C2 (fun hS => ?_)
        clear hK
        refine wpAnyH_ready (rs := [13]) (by kernel_rfl) (by simp) ?_
        refine AllReadyH.cons rfl (fun K hK => ?_) AllReadyH.nil
        go_simp
        refine (HDo.out w2 (HM.out.below b2') (Nat.le_trans hzr b2'.size)).mono ?_
        rintro e w3 ⟨rfl, X3, m3, t3, p3⟩
        have C3 : Chg X1.foot wr w3 := C2.trans (fun q hq => Or.inl hq) t3.chg
        refine hK.out _ _ C3 (fun hS => ?_)
        clear hK
        refine tkG (i := 14) (v := .tuple #[.string ⟨#[0, 0]⟩, .int .i64 0]) rfl hS ?_
        refine tkG (i := 15) (v := .string ⟨#[0, 0]⟩) rfl hS ?_
        refine tkG (i := 16) (v := .int .i64 0) rfl hS ?_
        refine tkG (i := 17) (v := .string ⟨#[0, 0]⟩) rfl hS ?_
        refine tkG (i := 18) (v := .int .i64 0) rfl hS ?_
        refine wpAnyH_done (by kernel_rfl) ?_ _
        have HF : Hid (∃ X', Hm w3 w.heap.size X' (esN 1) ∧ X'.p = X.p ∧ Blk w3 w1.heap.size rowE 27 ∧ Below w.heap.size w w3) :=
          ⟨X3, m3, p3, Blk.chg HX.out.2.1 C3 hnf, below_chg HX.out.2.2 hzr C3 (fun q hq => HM.out.foot_base q hq)⟩
        clear m3 t3 p3 C3 C2 b2 b2' HDo HTX HX HM hnf d0 d1 d2 d3 d4 d5 d6 d7 d8 d9
        go_wp2
        exact ⟨⟨1, by omega, by norm_cast, HF⟩, by simp [intOf]⟩
      · obtain ⟨X1, m1, p1, r1, bb⟩ := HR.out
        clear HR
        have d0 : wr.cell? ⟨w1.heap.size, 10, none⟩ = some (.int .i64 1) := r1.cell rfl
        have d1 : wr.cell? ⟨w1.heap.size, 11, none⟩ = some (.int .i64 0) := r1.cell rfl
        have d2 : wr.cell? ⟨w1.heap.size, 12, none⟩ = some (.int .i64 4) := r1.cell rfl
        have d3 : wr.cell? ⟨w1.heap.size, 13, none⟩ = some (.int .i64 0) := r1.cell rfl
        have d4 : wr.cell? ⟨w1.heap.size, 14, none⟩ = some (.int .i64 5) := r1.cell rfl
        have d5 : wr.cell? ⟨w1.heap.size, 15, none⟩ = some (.int .i64 0) := r1.cell rfl
        have d6 : wr.cell? ⟨w1.heap.size, 16, none⟩ = some (.int .i64 0) := r1.cell rfl
        have d7 : wr.cell? ⟨w1.heap.size, 17, none⟩ = some (.float .f64 0) := r1.cell rfl
        have d8 : wr.cell? ⟨w1.heap.size, 18, none⟩ = some (.bool false) := r1.cell rfl
        have d9 : wr.cell? ⟨w1.heap.size, 19, none⟩ = some (.string ⟨#[]⟩) := r1.cell rfl
        have hnf : ¬ X1.foot w1.heap.size := m1.foot_typ r1 (by decide)
        have HM : Hid (Hm wr w.heap.size X1 es1) := m1
        have HX : Hid (X1.p = X.p ∧ Blk wr w1.heap.size rowE 27 ∧ Below w.heap.size w wr) := ⟨p1, r1, bb⟩
        have hzr := bb.size
        have HTx : Hid _ := fun wx => text_hs ea1 wx (by decide)
        rw [ea1_text] at HTx
        have HTX : Hid (∀ wx, Calls Tryz.prog 9 #[.agg #[.int .i64 1, .int .i64 0, .int .i64 4, .int .i64 0, .int .i64 5, .int .i64 0, .int .i64 0, .float .f64 0, .bool false, .string ⟨#[]⟩]] wx fun e w' => e = .returned (.string ⟨(opB eo1).toArray⟩) ∧ Below wx.heap.size wx w') := HTx.out
        have HDo : Hid _ := fun wx h hB => edo1 (base := w.heap.size) wx (X := X1) h hB
        rw [p1] at HDo
        generalize (⟨(opB eo1).toArray⟩ : ByteArray) = tx at *
        clear m1 p1 r1 bb HTx
        go_upto_region 8 with fail
        refine wp_region_held_drew (S := (fun wx => Chg X1.foot wr wx)) (by kernel_rfl) (Chg.of_below (Below.refl wr.heap.size wr) : Chg X1.foot wr wr).drew (fun hS => ?_)
        refine tkG (i := 0) (v := .pointer (some ⟨X.p, 0, none⟩)) rfl hS ?_
        refine tkG (i := 1) (v := .slice (some ⟨w1.heap.size, 0, none⟩) 5 5) rfl hS ?_
        refine tkG (i := 2) (v := .int .i64 1) rfl hS ?_
        refine tkG (i := 3) (v := .pointer (some ⟨w1.heap.size, 10, none⟩)) rfl hS ?_
        refine tkG (i := 4) (v := .pointer (some ⟨w1.heap.size, 10, none⟩)) rfl hS ?_
        refine tkH (i := 5) (v := .int .i64 1) rfl (fun w3 hS => by have f0 : w3.cell? ⟨w1.heap.size, 10, none⟩ = some (.int .i64 1) := Chg.cell hS d0 hnf; have f1 : w3.cell? ⟨w1.heap.size, 11, none⟩ = some (.int .i64 0) := Chg.cell hS d1 hnf; have f2 : w3.cell? ⟨w1.heap.size, 12, none⟩ = some (.int .i64 4) := Chg.cell hS d2 hnf; have f3 : w3.cell? ⟨w1.heap.size, 13, none⟩ = some (.int .i64 0) := Chg.cell hS d3 hnf; have f4 : w3.cell? ⟨w1.heap.size, 14, none⟩ = some (.int .i64 5) := Chg.cell hS d4 hnf; have f5 : w3.cell? ⟨w1.heap.size, 15, none⟩ = some (.int .i64 0) := Chg.cell hS d5 hnf; have f6 : w3.cell? ⟨w1.heap.size, 16, none⟩ = some (.int .i64 0) := Chg.cell hS d6 hnf; have f7 : w3.cell? ⟨w1.heap.size, 17, none⟩ = some (.float .f64 0) := Chg.cell hS d7 hnf; have f8 : w3.cell? ⟨w1.heap.size, 18, none⟩ = some (.bool false) := Chg.cell hS d8 hnf; have f9 : w3.cell? ⟨w1.heap.size, 19, none⟩ = some (.string ⟨#[]⟩) := Chg.cell hS d9 hnf; go_simp) hS ?_
        refine tkG (i := 6) (v := .int .i64 1) rfl hS ?_
        refine tkH (i := 7) (v := .int .i64 2) rfl (fun w3 hS => by go_simp; first | done | decide) hS ?_
        refine tkG (i := 8) (v := .slice (some ⟨w1.heap.size, 0, none⟩) 5 5) rfl hS ?_
        refine tkG (i := 9) (v := .int .i64 1) rfl hS ?_
        refine tkG (i := 10) (v := .pointer (some ⟨w1.heap.size, 10, none⟩)) rfl hS ?_
        refine tkH (i := 11) (v := .agg #[.int .i64 1, .int .i64 0, .int .i64 4, .int .i64 0, .int .i64 5, .int .i64 0, .int .i64 0, .float .f64 0, .bool false, .string ⟨#[]⟩]) rfl (fun w3 hS => by have f0 : w3.cell? ⟨w1.heap.size, 10, none⟩ = some (.int .i64 1) := Chg.cell hS d0 hnf; have f1 : w3.cell? ⟨w1.heap.size, 11, none⟩ = some (.int .i64 0) := Chg.cell hS d1 hnf; have f2 : w3.cell? ⟨w1.heap.size, 12, none⟩ = some (.int .i64 4) := Chg.cell hS d2 hnf; have f3 : w3.cell? ⟨w1.heap.size, 13, none⟩ = some (.int .i64 0) := Chg.cell hS d3 hnf; have f4 : w3.cell? ⟨w1.heap.size, 14, none⟩ = some (.int .i64 5) := Chg.cell hS d4 hnf; have f5 : w3.cell? ⟨w1.heap.size, 15, none⟩ = some (.int .i64 0) := Chg.cell hS d5 hnf; have f6 : w3.cell? ⟨w1.heap.size, 16, none⟩ = some (.int .i64 0) := Chg.cell hS d6 hnf; have f7 : w3.cell? ⟨w1.heap.size, 17, none⟩ = some (.float .f64 0) := Chg.cell hS d7 hnf; have f8 : w3.cell? ⟨w1.heap.size, 18, none⟩ = some (.bool false) := Chg.cell hS d8 hnf; have f9 : w3.cell? ⟨w1.heap.size, 19, none⟩ = some (.string ⟨#[]⟩) := Chg.cell hS d9 hnf; go_simp) hS ?_
        refine wpAnyH_ready (rs := [12]) (by kernel_rfl) (by simp) ?_
        refine AllReadyH.cons rfl (fun K hK => ?_) AllReadyH.nil
        go_simp
        refine (HTX.out _).mono ?_
        rintro e w2 ⟨rfl, b2⟩
        have b2' : Below wr.heap.size wr w2 := ⟨b2.os, b2.tape, b2.output, b2.size, b2.block⟩
        have C2 : Chg X1.foot wr w2 := Chg.of_below b2'
        refine hK.out _ _ C2 (fun hS => ?_)
        clear hK
        refine wpAnyH_ready (rs := [13]) (by kernel_rfl) (by simp) ?_
        refine AllReadyH.cons rfl (fun K hK => ?_) AllReadyH.nil
        go_simp
        refine (HDo.out w2 (HM.out.below b2') (Nat.le_trans hzr b2'.size)).mono ?_
        rintro e w3 ⟨rfl, X3, m3, t3, p3⟩
        have C3 : Chg X1.foot wr w3 := C2.trans (fun q hq => Or.inl hq) t3.chg
        refine hK.out _ _ C3 (fun hS => ?_)
        clear hK
        refine tkG (i := 14) (v := .tuple #[.string ⟨#[0, 0]⟩, .int .i64 0]) rfl hS ?_
        refine tkG (i := 15) (v := .string ⟨#[0, 0]⟩) rfl hS ?_
        refine tkG (i := 16) (v := .int .i64 0) rfl hS ?_
        refine tkG (i := 17) (v := .string ⟨#[0, 0]⟩) rfl hS ?_
        refine tkG (i := 18) (v := .int .i64 0) rfl hS ?_
        refine wpAnyH_done (by kernel_rfl) ?_ _
        have HF : Hid (∃ X', Hm w3 w.heap.size X' (esN 2) ∧ X'.p = X.p ∧ Blk w3 w1.heap.size rowE 27 ∧ Below w.heap.size w w3) :=
          ⟨X3, m3, p3, Blk.chg HX.out.2.1 C3 hnf, below_chg HX.out.2.2 hzr C3 (fun q hq => HM.out.foot_base q hq)⟩
        clear m3 t3 p3 C3 C2 b2 b2' HDo HTX HX HM hnf d0 d1 d2 d3 d4 d5 d6 d7 d8 d9
        go_wp2
        exact ⟨⟨2, by omega, by norm_cast, HF⟩, by simp [intOf]⟩
      · obtain ⟨X1, m1, p1, r1, bb⟩ := HR.out
        clear HR
        have d0 : wr.cell? ⟨w1.heap.size, 20, none⟩ = some (.int .i64 0) := r1.cell rfl
        have d1 : wr.cell? ⟨w1.heap.size, 21, none⟩ = some (.int .i64 0) := r1.cell rfl
        have d2 : wr.cell? ⟨w1.heap.size, 22, none⟩ = some (.int .i64 8) := r1.cell rfl
        have d3 : wr.cell? ⟨w1.heap.size, 23, none⟩ = some (.int .i64 0) := r1.cell rfl
        have d4 : wr.cell? ⟨w1.heap.size, 24, none⟩ = some (.int .i64 5) := r1.cell rfl
        have d5 : wr.cell? ⟨w1.heap.size, 25, none⟩ = some (.int .i64 0) := r1.cell rfl
        have d6 : wr.cell? ⟨w1.heap.size, 26, none⟩ = some (.int .i64 1) := r1.cell rfl
        have d7 : wr.cell? ⟨w1.heap.size, 27, none⟩ = some (.float .f64 4611686018427387904) := r1.cell rfl
        have d8 : wr.cell? ⟨w1.heap.size, 28, none⟩ = some (.bool false) := r1.cell rfl
        have d9 : wr.cell? ⟨w1.heap.size, 29, none⟩ = some (.string ⟨#[]⟩) := r1.cell rfl
        have hnf : ¬ X1.foot w1.heap.size := m1.foot_typ r1 (by decide)
        have HM : Hid (Hm wr w.heap.size X1 es2) := m1
        have HX : Hid (X1.p = X.p ∧ Blk wr w1.heap.size rowE 27 ∧ Below w.heap.size w wr) := ⟨p1, r1, bb⟩
        have hzr := bb.size
        have HTx : Hid _ := fun wx => text_hs ea2 wx (by decide)
        rw [ea2_text] at HTx
        have HTX : Hid (∀ wx, Calls Tryz.prog 9 #[.agg #[.int .i64 0, .int .i64 0, .int .i64 8, .int .i64 0, .int .i64 5, .int .i64 0, .int .i64 1, .float .f64 4611686018427387904, .bool false, .string ⟨#[]⟩]] wx fun e w' => e = .returned (.string ⟨(opB eo2).toArray⟩) ∧ Below wx.heap.size wx w') := HTx.out
        have HDo : Hid _ := fun wx h hB => edo2 (base := w.heap.size) wx (X := X1) h hB
        rw [p1] at HDo
        generalize (⟨(opB eo2).toArray⟩ : ByteArray) = tx at *
        clear m1 p1 r1 bb HTx
        go_upto_region 8 with fail
        refine wp_region_held_drew (S := (fun wx => Chg X1.foot wr wx)) (by kernel_rfl) (Chg.of_below (Below.refl wr.heap.size wr) : Chg X1.foot wr wr).drew (fun hS => ?_)
        refine tkG (i := 0) (v := .pointer (some ⟨X.p, 0, none⟩)) rfl hS ?_
        refine tkG (i := 1) (v := .slice (some ⟨w1.heap.size, 0, none⟩) 5 5) rfl hS ?_
        refine tkG (i := 2) (v := .int .i64 2) rfl hS ?_
        refine tkG (i := 3) (v := .pointer (some ⟨w1.heap.size, 20, none⟩)) rfl hS ?_
        refine tkG (i := 4) (v := .pointer (some ⟨w1.heap.size, 20, none⟩)) rfl hS ?_
        refine tkH (i := 5) (v := .int .i64 0) rfl (fun w3 hS => by have f0 : w3.cell? ⟨w1.heap.size, 20, none⟩ = some (.int .i64 0) := Chg.cell hS d0 hnf; have f1 : w3.cell? ⟨w1.heap.size, 21, none⟩ = some (.int .i64 0) := Chg.cell hS d1 hnf; have f2 : w3.cell? ⟨w1.heap.size, 22, none⟩ = some (.int .i64 8) := Chg.cell hS d2 hnf; have f3 : w3.cell? ⟨w1.heap.size, 23, none⟩ = some (.int .i64 0) := Chg.cell hS d3 hnf; have f4 : w3.cell? ⟨w1.heap.size, 24, none⟩ = some (.int .i64 5) := Chg.cell hS d4 hnf; have f5 : w3.cell? ⟨w1.heap.size, 25, none⟩ = some (.int .i64 0) := Chg.cell hS d5 hnf; have f6 : w3.cell? ⟨w1.heap.size, 26, none⟩ = some (.int .i64 1) := Chg.cell hS d6 hnf; have f7 : w3.cell? ⟨w1.heap.size, 27, none⟩ = some (.float .f64 4611686018427387904) := Chg.cell hS d7 hnf; have f8 : w3.cell? ⟨w1.heap.size, 28, none⟩ = some (.bool false) := Chg.cell hS d8 hnf; have f9 : w3.cell? ⟨w1.heap.size, 29, none⟩ = some (.string ⟨#[]⟩) := Chg.cell hS d9 hnf; go_simp) hS ?_
        refine tkG (i := 6) (v := .int .i64 2) rfl hS ?_
        refine tkH (i := 7) (v := .int .i64 3) rfl (fun w3 hS => by go_simp; first | done | decide) hS ?_
        refine tkG (i := 8) (v := .slice (some ⟨w1.heap.size, 0, none⟩) 5 5) rfl hS ?_
        refine tkG (i := 9) (v := .int .i64 2) rfl hS ?_
        refine tkG (i := 10) (v := .pointer (some ⟨w1.heap.size, 20, none⟩)) rfl hS ?_
        refine tkH (i := 11) (v := .agg #[.int .i64 0, .int .i64 0, .int .i64 8, .int .i64 0, .int .i64 5, .int .i64 0, .int .i64 1, .float .f64 4611686018427387904, .bool false, .string ⟨#[]⟩]) rfl (fun w3 hS => by have f0 : w3.cell? ⟨w1.heap.size, 20, none⟩ = some (.int .i64 0) := Chg.cell hS d0 hnf; have f1 : w3.cell? ⟨w1.heap.size, 21, none⟩ = some (.int .i64 0) := Chg.cell hS d1 hnf; have f2 : w3.cell? ⟨w1.heap.size, 22, none⟩ = some (.int .i64 8) := Chg.cell hS d2 hnf; have f3 : w3.cell? ⟨w1.heap.size, 23, none⟩ = some (.int .i64 0) := Chg.cell hS d3 hnf; have f4 : w3.cell? ⟨w1.heap.size, 24, none⟩ = some (.int .i64 5) := Chg.cell hS d4 hnf; have f5 : w3.cell? ⟨w1.heap.size, 25, none⟩ = some (.int .i64 0) := Chg.cell hS d5 hnf; have f6 : w3.cell? ⟨w1.heap.size, 26, none⟩ = some (.int .i64 1) := Chg.cell hS d6 hnf; have f7 : w3.cell? ⟨w1.heap.size, 27, none⟩ = some (.float .f64 4611686018427387904) := Chg.cell hS d7 hnf; have f8 : w3.cell? ⟨w1.heap.size, 28, none⟩ = some (.bool false) := Chg.cell hS d8 hnf; have f9 : w3.cell? ⟨w1.heap.size, 29, none⟩ = some (.string ⟨#[]⟩) := Chg.cell hS d9 hnf; go_simp) hS ?_
        refine wpAnyH_ready (rs := [12]) (by kernel_rfl) (by simp) ?_
        refine AllReadyH.cons rfl (fun K hK => ?_) AllReadyH.nil
        go_simp
        refine (HTX.out _).mono ?_
        rintro e w2 ⟨rfl, b2⟩
        have b2' : Below wr.heap.size wr w2 := ⟨b2.os, b2.tape, b2.output, b2.size, b2.block⟩
        have C2 : Chg X1.foot wr w2 := Chg.of_below b2'
        refine hK.out _ _ C2 (fun hS => ?_)
        clear hK
        refine wpAnyH_ready (rs := [13]) (by kernel_rfl) (by simp) ?_
        refine AllReadyH.cons rfl (fun K hK => ?_) AllReadyH.nil
        go_simp
        refine (HDo.out w2 (HM.out.below b2') (Nat.le_trans hzr b2'.size)).mono ?_
        rintro e w3 ⟨rfl, X3, m3, t3, p3⟩
        have C3 : Chg X1.foot wr w3 := C2.trans (fun q hq => Or.inl hq) t3.chg
        refine hK.out _ _ C3 (fun hS => ?_)
        clear hK
        refine tkG (i := 14) (v := .tuple #[.string ⟨#[0, 0]⟩, .int .i64 0]) rfl hS ?_
        refine tkG (i := 15) (v := .string ⟨#[0, 0]⟩) rfl hS ?_
        refine tkG (i := 16) (v := .int .i64 0) rfl hS ?_
        refine tkG (i := 17) (v := .string ⟨#[0, 0]⟩) rfl hS ?_
        refine tkG (i := 18) (v := .int .i64 0) rfl hS ?_
        refine wpAnyH_done (by kernel_rfl) ?_ _
        have HF : Hid (∃ X', Hm w3 w.heap.size X' (esN 3) ∧ X'.p = X.p ∧ Blk w3 w1.heap.size rowE 27 ∧ Below w.heap.size w w3) :=
          ⟨X3, m3, p3, Blk.chg HX.out.2.1 C3 hnf, below_chg HX.out.2.2 hzr C3 (fun q hq => HM.out.foot_base q hq)⟩
        clear m3 t3 p3 C3 C2 b2 b2' HDo HTX HX HM hnf d0 d1 d2 d3 d4 d5 d6 d7 d8 d9
        go_wp2
        exact ⟨⟨3, by omega, by norm_cast, HF⟩, by simp [intOf]⟩
      · obtain ⟨X1, m1, p1, r1, bb⟩ := HR.out
        clear HR
        have d0 : wr.cell? ⟨w1.heap.size, 30, none⟩ = some (.int .i64 1) := r1.cell rfl
        have d1 : wr.cell? ⟨w1.heap.size, 31, none⟩ = some (.int .i64 0) := r1.cell rfl
        have d2 : wr.cell? ⟨w1.heap.size, 32, none⟩ = some (.int .i64 8) := r1.cell rfl
        have d3 : wr.cell? ⟨w1.heap.size, 33, none⟩ = some (.int .i64 0) := r1.cell rfl
        have d4 : wr.cell? ⟨w1.heap.size, 34, none⟩ = some (.int .i64 3) := r1.cell rfl
        have d5 : wr.cell? ⟨w1.heap.size, 35, none⟩ = some (.int .i64 1) := r1.cell rfl
        have d6 : wr.cell? ⟨w1.heap.size, 36, none⟩ = some (.int .i64 1) := r1.cell rfl
        have d7 : wr.cell? ⟨w1.heap.size, 37, none⟩ = some (.float .f64 4609434218613702656) := r1.cell rfl
        have d8 : wr.cell? ⟨w1.heap.size, 38, none⟩ = some (.bool false) := r1.cell rfl
        have d9 : wr.cell? ⟨w1.heap.size, 39, none⟩ = some (.string ⟨#[]⟩) := r1.cell rfl
        have hnf : ¬ X1.foot w1.heap.size := m1.foot_typ r1 (by decide)
        have HM : Hid (Hm wr w.heap.size X1 es3) := m1
        have HX : Hid (X1.p = X.p ∧ Blk wr w1.heap.size rowE 27 ∧ Below w.heap.size w wr) := ⟨p1, r1, bb⟩
        have hzr := bb.size
        have HTx : Hid _ := fun wx => text_hs ea3 wx (by decide)
        rw [ea3_text] at HTx
        have HTX : Hid (∀ wx, Calls Tryz.prog 9 #[.agg #[.int .i64 1, .int .i64 0, .int .i64 8, .int .i64 0, .int .i64 3, .int .i64 1, .int .i64 1, .float .f64 4609434218613702656, .bool false, .string ⟨#[]⟩]] wx fun e w' => e = .returned (.string ⟨(opB eo3).toArray⟩) ∧ Below wx.heap.size wx w') := HTx.out
        have HDo : Hid _ := fun wx h hB => edo3 (base := w.heap.size) wx (X := X1) h hB
        rw [p1] at HDo
        generalize (⟨(opB eo3).toArray⟩ : ByteArray) = tx at *
        clear m1 p1 r1 bb HTx
        go_upto_region 8 with fail
        refine wp_region_held_drew (S := (fun wx => Chg X1.foot wr wx)) (by kernel_rfl) (Chg.of_below (Below.refl wr.heap.size wr) : Chg X1.foot wr wr).drew (fun hS => ?_)
        refine tkG (i := 0) (v := .pointer (some ⟨X.p, 0, none⟩)) rfl hS ?_
        refine tkG (i := 1) (v := .slice (some ⟨w1.heap.size, 0, none⟩) 5 5) rfl hS ?_
        refine tkG (i := 2) (v := .int .i64 3) rfl hS ?_
        refine tkG (i := 3) (v := .pointer (some ⟨w1.heap.size, 30, none⟩)) rfl hS ?_
        refine tkG (i := 4) (v := .pointer (some ⟨w1.heap.size, 30, none⟩)) rfl hS ?_
        refine tkH (i := 5) (v := .int .i64 1) rfl (fun w3 hS => by have f0 : w3.cell? ⟨w1.heap.size, 30, none⟩ = some (.int .i64 1) := Chg.cell hS d0 hnf; have f1 : w3.cell? ⟨w1.heap.size, 31, none⟩ = some (.int .i64 0) := Chg.cell hS d1 hnf; have f2 : w3.cell? ⟨w1.heap.size, 32, none⟩ = some (.int .i64 8) := Chg.cell hS d2 hnf; have f3 : w3.cell? ⟨w1.heap.size, 33, none⟩ = some (.int .i64 0) := Chg.cell hS d3 hnf; have f4 : w3.cell? ⟨w1.heap.size, 34, none⟩ = some (.int .i64 3) := Chg.cell hS d4 hnf; have f5 : w3.cell? ⟨w1.heap.size, 35, none⟩ = some (.int .i64 1) := Chg.cell hS d5 hnf; have f6 : w3.cell? ⟨w1.heap.size, 36, none⟩ = some (.int .i64 1) := Chg.cell hS d6 hnf; have f7 : w3.cell? ⟨w1.heap.size, 37, none⟩ = some (.float .f64 4609434218613702656) := Chg.cell hS d7 hnf; have f8 : w3.cell? ⟨w1.heap.size, 38, none⟩ = some (.bool false) := Chg.cell hS d8 hnf; have f9 : w3.cell? ⟨w1.heap.size, 39, none⟩ = some (.string ⟨#[]⟩) := Chg.cell hS d9 hnf; go_simp) hS ?_
        refine tkG (i := 6) (v := .int .i64 3) rfl hS ?_
        refine tkH (i := 7) (v := .int .i64 4) rfl (fun w3 hS => by go_simp; first | done | decide) hS ?_
        refine tkG (i := 8) (v := .slice (some ⟨w1.heap.size, 0, none⟩) 5 5) rfl hS ?_
        refine tkG (i := 9) (v := .int .i64 3) rfl hS ?_
        refine tkG (i := 10) (v := .pointer (some ⟨w1.heap.size, 30, none⟩)) rfl hS ?_
        refine tkH (i := 11) (v := .agg #[.int .i64 1, .int .i64 0, .int .i64 8, .int .i64 0, .int .i64 3, .int .i64 1, .int .i64 1, .float .f64 4609434218613702656, .bool false, .string ⟨#[]⟩]) rfl (fun w3 hS => by have f0 : w3.cell? ⟨w1.heap.size, 30, none⟩ = some (.int .i64 1) := Chg.cell hS d0 hnf; have f1 : w3.cell? ⟨w1.heap.size, 31, none⟩ = some (.int .i64 0) := Chg.cell hS d1 hnf; have f2 : w3.cell? ⟨w1.heap.size, 32, none⟩ = some (.int .i64 8) := Chg.cell hS d2 hnf; have f3 : w3.cell? ⟨w1.heap.size, 33, none⟩ = some (.int .i64 0) := Chg.cell hS d3 hnf; have f4 : w3.cell? ⟨w1.heap.size, 34, none⟩ = some (.int .i64 3) := Chg.cell hS d4 hnf; have f5 : w3.cell? ⟨w1.heap.size, 35, none⟩ = some (.int .i64 1) := Chg.cell hS d5 hnf; have f6 : w3.cell? ⟨w1.heap.size, 36, none⟩ = some (.int .i64 1) := Chg.cell hS d6 hnf; have f7 : w3.cell? ⟨w1.heap.size, 37, none⟩ = some (.float .f64 4609434218613702656) := Chg.cell hS d7 hnf; have f8 : w3.cell? ⟨w1.heap.size, 38, none⟩ = some (.bool false) := Chg.cell hS d8 hnf; have f9 : w3.cell? ⟨w1.heap.size, 39, none⟩ = some (.string ⟨#[]⟩) := Chg.cell hS d9 hnf; go_simp) hS ?_
        refine wpAnyH_ready (rs := [12]) (by kernel_rfl) (by simp) ?_
        refine AllReadyH.cons rfl (fun K hK => ?_) AllReadyH.nil
        go_simp
        refine (HTX.out _).mono ?_
        rintro e w2 ⟨rfl, b2⟩
        have b2' : Below wr.heap.size wr w2 := ⟨b2.os, b2.tape, b2.output, b2.size, b2.block⟩
        have C2 : Chg X1.foot wr w2 := Chg.of_below b2'
        refine hK.out _ _ C2 (fun hS => ?_)
        clear hK
        refine wpAnyH_ready (rs := [13]) (by kernel_rfl) (by simp) ?_
        refine AllReadyH.cons rfl (fun K hK => ?_) AllReadyH.nil
        go_simp
        refine (HDo.out w2 (HM.out.below b2') (Nat.le_trans hzr b2'.size)).mono ?_
        rintro e w3 ⟨rfl, X3, m3, t3, p3⟩
        have C3 : Chg X1.foot wr w3 := C2.trans (fun q hq => Or.inl hq) t3.chg
        refine hK.out _ _ C3 (fun hS => ?_)
        clear hK
        refine tkG (i := 14) (v := .tuple #[.string ⟨#[0, 0]⟩, .int .i64 0]) rfl hS ?_
        refine tkG (i := 15) (v := .string ⟨#[0, 0]⟩) rfl hS ?_
        refine tkG (i := 16) (v := .int .i64 0) rfl hS ?_
        refine tkG (i := 17) (v := .string ⟨#[0, 0]⟩) rfl hS ?_
        refine tkG (i := 18) (v := .int .i64 0) rfl hS ?_
        refine wpAnyH_done (by kernel_rfl) ?_ _
        have HF : Hid (∃ X', Hm w3 w.heap.size X' (esN 4) ∧ X'.p = X.p ∧ Blk w3 w1.heap.size rowE 27 ∧ Below w.heap.size w w3) :=
          ⟨X3, m3, p3, Blk.chg HX.out.2.1 C3 hnf, below_chg HX.out.2.2 hzr C3 (fun q hq => HM.out.foot_base q hq)⟩
        clear m3 t3 p3 C3 C2 b2 b2' HDo HTX HX HM hnf d0 d1 d2 d3 d4 d5 d6 d7 d8 d9
        go_wp2
        exact ⟨⟨4, by omega, by norm_cast, HF⟩, by simp [intOf]⟩
      · obtain ⟨X1, m1, p1, r1, bb⟩ := HR.out
        clear HR
        have d0 : wr.cell? ⟨w1.heap.size, 40, none⟩ = some (.int .i64 0) := r1.cell rfl
        have d1 : wr.cell? ⟨w1.heap.size, 41, none⟩ = some (.int .i64 0) := r1.cell rfl
        have d2 : wr.cell? ⟨w1.heap.size, 42, none⟩ = some (.int .i64 1) := r1.cell rfl
        have d3 : wr.cell? ⟨w1.heap.size, 43, none⟩ = some (.int .i64 0) := r1.cell rfl
        have d4 : wr.cell? ⟨w1.heap.size, 44, none⟩ = some (.int .i64 0) := r1.cell rfl
        have d5 : wr.cell? ⟨w1.heap.size, 45, none⟩ = some (.int .i64 0) := r1.cell rfl
        have d6 : wr.cell? ⟨w1.heap.size, 46, none⟩ = some (.int .i64 0) := r1.cell rfl
        have d7 : wr.cell? ⟨w1.heap.size, 47, none⟩ = some (.float .f64 0) := r1.cell rfl
        have d8 : wr.cell? ⟨w1.heap.size, 48, none⟩ = some (.bool false) := r1.cell rfl
        have d9 : wr.cell? ⟨w1.heap.size, 49, none⟩ = some (.string ⟨#[]⟩) := r1.cell rfl
        have hnf : ¬ X1.foot w1.heap.size := m1.foot_typ r1 (by decide)
        have HM : Hid (Hm wr w.heap.size X1 es4) := m1
        have HX : Hid (X1.p = X.p ∧ Blk wr w1.heap.size rowE 27 ∧ Below w.heap.size w wr) := ⟨p1, r1, bb⟩
        have hzr := bb.size
        have HTx : Hid _ := fun wx => text_hs ea4 wx (by decide)
        rw [ea4_text] at HTx
        have HTX : Hid (∀ wx, Calls Tryz.prog 9 #[.agg #[.int .i64 0, .int .i64 0, .int .i64 1, .int .i64 0, .int .i64 0, .int .i64 0, .int .i64 0, .float .f64 0, .bool false, .string ⟨#[]⟩]] wx fun e w' => e = .returned (.string ⟨(opB eo4).toArray⟩) ∧ Below wx.heap.size wx w') := HTx.out
        have HDo : Hid _ := fun wx h hB => edo4 (base := w.heap.size) wx (X := X1) h hB
        rw [p1] at HDo
        generalize (⟨(opB eo4).toArray⟩ : ByteArray) = tx at *
        clear m1 p1 r1 bb HTx
        go_upto_region 8 with fail
        refine wp_region_held_drew (S := (fun wx => Chg X1.foot wr wx)) (by kernel_rfl) (Chg.of_below (Below.refl wr.heap.size wr) : Chg X1.foot wr wr).drew (fun hS => ?_)
        refine tkG (i := 0) (v := .pointer (some ⟨X.p, 0, none⟩)) rfl hS ?_
        refine tkG (i := 1) (v := .slice (some ⟨w1.heap.size, 0, none⟩) 5 5) rfl hS ?_
        refine tkG (i := 2) (v := .int .i64 4) rfl hS ?_
        refine tkG (i := 3) (v := .pointer (some ⟨w1.heap.size, 40, none⟩)) rfl hS ?_
        refine tkG (i := 4) (v := .pointer (some ⟨w1.heap.size, 40, none⟩)) rfl hS ?_
        refine tkH (i := 5) (v := .int .i64 0) rfl (fun w3 hS => by have f0 : w3.cell? ⟨w1.heap.size, 40, none⟩ = some (.int .i64 0) := Chg.cell hS d0 hnf; have f1 : w3.cell? ⟨w1.heap.size, 41, none⟩ = some (.int .i64 0) := Chg.cell hS d1 hnf; have f2 : w3.cell? ⟨w1.heap.size, 42, none⟩ = some (.int .i64 1) := Chg.cell hS d2 hnf; have f3 : w3.cell? ⟨w1.heap.size, 43, none⟩ = some (.int .i64 0) := Chg.cell hS d3 hnf; have f4 : w3.cell? ⟨w1.heap.size, 44, none⟩ = some (.int .i64 0) := Chg.cell hS d4 hnf; have f5 : w3.cell? ⟨w1.heap.size, 45, none⟩ = some (.int .i64 0) := Chg.cell hS d5 hnf; have f6 : w3.cell? ⟨w1.heap.size, 46, none⟩ = some (.int .i64 0) := Chg.cell hS d6 hnf; have f7 : w3.cell? ⟨w1.heap.size, 47, none⟩ = some (.float .f64 0) := Chg.cell hS d7 hnf; have f8 : w3.cell? ⟨w1.heap.size, 48, none⟩ = some (.bool false) := Chg.cell hS d8 hnf; have f9 : w3.cell? ⟨w1.heap.size, 49, none⟩ = some (.string ⟨#[]⟩) := Chg.cell hS d9 hnf; go_simp) hS ?_
        refine tkG (i := 6) (v := .int .i64 4) rfl hS ?_
        refine tkH (i := 7) (v := .int .i64 5) rfl (fun w3 hS => by go_simp; first | done | decide) hS ?_
        refine tkG (i := 8) (v := .slice (some ⟨w1.heap.size, 0, none⟩) 5 5) rfl hS ?_
        refine tkG (i := 9) (v := .int .i64 4) rfl hS ?_
        refine tkG (i := 10) (v := .pointer (some ⟨w1.heap.size, 40, none⟩)) rfl hS ?_
        refine tkH (i := 11) (v := .agg #[.int .i64 0, .int .i64 0, .int .i64 1, .int .i64 0, .int .i64 0, .int .i64 0, .int .i64 0, .float .f64 0, .bool false, .string ⟨#[]⟩]) rfl (fun w3 hS => by have f0 : w3.cell? ⟨w1.heap.size, 40, none⟩ = some (.int .i64 0) := Chg.cell hS d0 hnf; have f1 : w3.cell? ⟨w1.heap.size, 41, none⟩ = some (.int .i64 0) := Chg.cell hS d1 hnf; have f2 : w3.cell? ⟨w1.heap.size, 42, none⟩ = some (.int .i64 1) := Chg.cell hS d2 hnf; have f3 : w3.cell? ⟨w1.heap.size, 43, none⟩ = some (.int .i64 0) := Chg.cell hS d3 hnf; have f4 : w3.cell? ⟨w1.heap.size, 44, none⟩ = some (.int .i64 0) := Chg.cell hS d4 hnf; have f5 : w3.cell? ⟨w1.heap.size, 45, none⟩ = some (.int .i64 0) := Chg.cell hS d5 hnf; have f6 : w3.cell? ⟨w1.heap.size, 46, none⟩ = some (.int .i64 0) := Chg.cell hS d6 hnf; have f7 : w3.cell? ⟨w1.heap.size, 47, none⟩ = some (.float .f64 0) := Chg.cell hS d7 hnf; have f8 : w3.cell? ⟨w1.heap.size, 48, none⟩ = some (.bool false) := Chg.cell hS d8 hnf; have f9 : w3.cell? ⟨w1.heap.size, 49, none⟩ = some (.string ⟨#[]⟩) := Chg.cell hS d9 hnf; go_simp) hS ?_
        refine wpAnyH_ready (rs := [12]) (by kernel_rfl) (by simp) ?_
        refine AllReadyH.cons rfl (fun K hK => ?_) AllReadyH.nil
        go_simp
        refine (HTX.out _).mono ?_
        rintro e w2 ⟨rfl, b2⟩
        have b2' : Below wr.heap.size wr w2 := ⟨b2.os, b2.tape, b2.output, b2.size, b2.block⟩
        have C2 : Chg X1.foot wr w2 := Chg.of_below b2'
        refine hK.out _ _ C2 (fun hS => ?_)
        clear hK
        refine wpAnyH_ready (rs := [13]) (by kernel_rfl) (by simp) ?_
        refine AllReadyH.cons rfl (fun K hK => ?_) AllReadyH.nil
        go_simp
        refine (HDo.out w2 (HM.out.below b2') (Nat.le_trans hzr b2'.size)).mono ?_
        rintro e w3 ⟨rfl, X3, m3, t3, p3⟩
        have C3 : Chg X1.foot wr w3 := C2.trans (fun q hq => Or.inl hq) t3.chg
        refine hK.out _ _ C3 (fun hS => ?_)
        clear hK
        refine tkG (i := 14) (v := .tuple #[.string ⟨#[0, 1]⟩, .int .i64 0]) rfl hS ?_
        refine tkG (i := 15) (v := .string ⟨#[0, 1]⟩) rfl hS ?_
        refine tkG (i := 16) (v := .int .i64 0) rfl hS ?_
        refine tkG (i := 17) (v := .string ⟨#[0, 1]⟩) rfl hS ?_
        refine tkG (i := 18) (v := .int .i64 0) rfl hS ?_
        refine wpAnyH_done (by kernel_rfl) ?_ _
        have HF : Hid (∃ X', Hm w3 w.heap.size X' (esN 5) ∧ X'.p = X.p ∧ Blk w3 w1.heap.size rowE 27 ∧ Below w.heap.size w w3) :=
          ⟨X3, m3, p3, Blk.chg HX.out.2.1 C3 hnf, below_chg HX.out.2.2 hzr C3 (fun q hq => HM.out.foot_base q hq)⟩
        clear m3 t3 p3 C3 C2 b2 b2' HDo HTX HX HM hnf d0 d1 d2 d3 d4 d5 d6 d7 d8 d9
        go_wp2
        exact ⟨⟨5, by omega, by norm_cast, HF⟩, by simp [intOf]⟩
    · obtain rfl : k = 5 := by omega
      clear hlt hk
      obtain ⟨X1, m1, p1, r1, bb⟩ := HR.out
      clear HR
      have HM : Hid (Hm wr w.heap.size X1 es5) := m1
      have HBB : Hid _ := bb
      obtain ⟨en, el, e2, e0, e1, f0, f6⟩ := ee5
      have HA0 : Hid _ := account_hs wr HM.out.ha 0 (by decide) (by rw [el]; decide)
      have HA1 : Hid (∀ wx, Hm wx w.heap.size X1 es5 → _) := fun wx h => account_hs wx h.ha 1 (by decide) (by rw [el]; decide)
      have HNw : Hid (∀ wx, Hm wx w.heap.size X1 es5 → _) := fun wx h => now_hs wx h.ha
      rw [p1] at HA0 HA1 HNw
      rw [en] at HNw
      obtain ⟨k0, hk0⟩ : ∃ k0, Led.kAt es5.l (0 : Int).toNat = k0 := ⟨_, rfl⟩
      obtain ⟨k1, hk1⟩ : ∃ k1, Led.kAt es5.l (1 : Int).toNat = k1 := ⟨_, rfl⟩
      rw [hk0] at HA0
      rw [hk1] at HA1
      rw [show ((0 : Int).toNat) = 0 from rfl] at hk0
      rw [show ((1 : Int).toNat) = 1 from rfl] at hk1
      rw [hk0] at e2 e0 e1
      rw [hk1] at f0 f6
      have n02 : k0.n 2 = 3 := e2
      have n00 : k0.n 0 = 6112 := e0
      have n01 : k0.n 1 = 256 := e1
      have n10 : k1.n 0 = 288 := f0
      have n16 : k1.n 6 = 0 := f6
      have HNN : Hid _ := And.intro n02 (And.intro n00 (And.intro n01 (And.intro n10 n16)))
      clear m1 p1 r1 bb en el e2 e0 e1 f0 f6 hk0 hk1 n02 n00 n01 n10 n16
      unfold Led.accV at HA0 HA1
      go_wp2_with fail
      refine Calls.mono HA0.out ?_
      rintro e w2 ⟨rfl, b2⟩
      obtain ⟨W3, hW3, X3, B3⟩ : ∃ W3, (w2.alloc (.cells #[.int .i64 0, .int .i64 0, .int .i64 0, .int .i64 0, .int .i64 0, .int .i64 0, .int .i64 0, .int .i64 0, .int .i64 0, .int .i64 0] 69)) = W3 ∧ Blk W3 w2.heap.size (Led.accA Led.Kt.zero) 69 ∧ Below w2.heap.size w2 W3 := ⟨_, rfl, blk_new _ _ _ _ rfl, by go_grown⟩
      obtain ⟨W4, hW4, X4, B4⟩ : ∃ W4, W3.setRow w2.heap.size (Led.accA k0) = W4 ∧ Blk W4 w2.heap.size (Led.accA k0) 69 ∧ Below w2.heap.size w2 W4 := ⟨_, rfl, Blk.setRow X3 _, below_setRow B3 _ _ (Nat.le_refl _)⟩
      have z2 := b2.size
      have HB4 : Hid (Below wr.heap.size wr W4) := b2.trans (B4.mono z2)
      have HC1 : Hid _ := HA1.out W4 (HM.out.below HB4.out)
      have HX4 : Hid _ := X4
      clear b2 B3 B4 HA0 HA1 X4
      go_wp2_with ((with_reducible refine st_row (ty := 69) (cs' := Led.accA k0) X3 (Led.accA_info _) (Led.accA_same _ _) (Led.accA_one _) hW4 ?_ ?_ ?_); rfl; rfl)
      refine Calls.mono HC1.out ?_
      rintro e w5 ⟨rfl, b5⟩
      clear hW3 hW4 X3
      obtain ⟨W6, hW6, X6, B6⟩ : ∃ W6, (w5.alloc (.cells #[.int .i64 0, .int .i64 0, .int .i64 0, .int .i64 0, .int .i64 0, .int .i64 0, .int .i64 0, .int .i64 0, .int .i64 0, .int .i64 0] 69)) = W6 ∧ Blk W6 w5.heap.size (Led.accA Led.Kt.zero) 69 ∧ Below w5.heap.size w5 W6 := ⟨_, rfl, blk_new _ _ _ _ rfl, by go_grown⟩
      obtain ⟨W7, hW7, X7, B7⟩ : ∃ W7, W6.setRow w5.heap.size (Led.accA k1) = W7 ∧ Blk W7 w5.heap.size (Led.accA k1) 69 ∧ Below w5.heap.size w5 W7 := ⟨_, rfl, Blk.setRow X6 _, below_setRow B6 _ _ (Nat.le_refl _)⟩
      have z5 := b5.size
      have B47 : Below W4.heap.size W4 W7 := b5.trans (B7.mono z5)
      have HB7 : Hid (Below wr.heap.size wr W7) := HB4.out.trans (B47.mono HB4.out.size)
      have Y4 : Blk W7 w2.heap.size (Led.accA k0) 69 := Blk.below HX4.out B47
      obtain ⟨n02, n00, n01, n10, n16⟩ := HNN.out
      have q0 : W7.cell? ⟨w2.heap.size, 0, none⟩ = some (.int .i64 6112) := by rw [← n00]; exact Y4.cell rfl
      have q1 : W7.cell? ⟨w2.heap.size, 1, none⟩ = some (.int .i64 256) := by rw [← n01]; exact Y4.cell rfl
      have q2 : W7.cell? ⟨w2.heap.size, 2, none⟩ = some (.int .i64 3) := by rw [← n02]; exact Y4.cell rfl
      have s0 : W7.cell? ⟨w5.heap.size, 0, none⟩ = some (.int .i64 288) := by rw [← n10]; exact X7.cell rfl
      have s6 : W7.cell? ⟨w5.heap.size, 6, none⟩ = some (.int .i64 0) := by rw [← n16]; exact X7.cell rfl
      have HN7 : Hid _ := HNw.out W7 (HM.out.below HB7.out)
      clear n02 n00 n01 n10 n16 Y4 B47 X7 B6 B7 b5 HNN HC1 HNw
      go_wp2_with ((with_reducible refine st_row (ty := 69) (cs' := Led.accA k1) X6 (Led.accA_info _) (Led.accA_same _ _) (Led.accA_one _) hW7 ?_ ?_ ?_); rfl; rfl)
      refine Calls.mono HN7.out ?_
      rintro e w8 ⟨rfl, hw8⟩
      subst w8
      go_wp2
      go_ret
      exact ⟨rfl, HBB.out.trans (HB7.out.mono HBB.out.size)⟩
end Go.Proofs.YtladgfngddgnlaaGreatDoor
