/- The law's like: the program's auction tells what the document's does. -/
import Derived.Test.YteinfckkpkbnlaaCkRu
import Derived.Test.YteinfckkpkbnlaaCkRy

namespace Go.Proofs.Yteinfckkpkbnlaa
open Go.RowKit
set_option linter.unusedSimpArgs false
set_option linter.unusedVariables false
variable {p b : Nat} {a : Au} {R g cap : Nat} {rs : Nat → Value}

def Au.soldE (a : Au) : Int := if a.state = 0 then 3 else 0
def Au.soldL (a : Au) : List Int := if a.state = 0 then [] else a.saleL
theorem sale_prog (w : World) (h : Lc w p b a) : Calls Try.prog 13 #[.pointer (some ⟨p, 0, none⟩)] w fun e w' => ∃ v, e = .returned (.tuple #[.int .i64 a.saleP, v, .int .i64 a.soldE]) ∧ Rd w' v a.soldL ∧ Below w.heap.size w w' := by
  by_cases h0 : a.state = 0
  · refine Calls.mono (sale_open w h h0) ?_
    rintro e w' ⟨rfl, hb⟩
    refine ⟨.slice none 0 0, ?_, ?_, hb⟩
    · unfold Au.saleP Au.soldE; rw [if_neg (by omega), if_pos h0]
    · unfold Au.soldL; rw [if_pos h0]; exact rd_nil _
  · refine Calls.mono (sale_over w h h0) ?_
    rintro e w' ⟨rfl, X, hb⟩
    refine ⟨.slice (some ⟨w.heap.size, 0, none⟩) a.ds.length a.ds.length, ?_, ?_, hb⟩
    · unfold Au.soldE; rw [if_neg h0]
    · unfold Au.soldL; rw [if_neg h0]
      have q := rd_blk X a.ds.length
      rw [saleL_len] at q
      exact q
theorem sale_ref (w : World) (h : Rf w a R g cap rs) : Calls Try.prog 17 #[rfV a R g cap] w fun e w' => ∃ v, e = .returned (.tuple #[.int .i64 a.saleP, v, .int .i64 a.soldE]) ∧ Rd w' v a.soldL ∧ Below w.heap.size w w' := by
  have hI := h.inv
  have hrd := h.rd
  have hone := h.one
  by_cases h0 : a.state = 0
  · refine Calls.mono (sale_ref0 w h h0) ?_
    rintro e w' ⟨rfl, hb⟩
    refine ⟨.slice none 0 0, ?_, ?_, hb⟩
    · unfold Au.saleP Au.soldE; rw [if_neg (by omega), if_pos h0]
    · unfold Au.soldL; rw [if_pos h0]; exact rd_nil _
  · have eE : a.soldE = 0 := by unfold Au.soldE; rw [if_neg h0]
    have eL : a.soldL = a.saleL := by unfold Au.soldL; rw [if_neg h0]
    rw [eE, eL]
    rcases hI.sta with k | ⟨k, kw⟩ | ⟨k, _⟩
    · exact absurd k h0
    · by_cases hr : R = 1
      · have hp : a.plain := Or.inl (by rw [hrd, hr]; rfl)
        have eP : a.saleP = a.price := by unfold Au.saleP; rw [if_pos k, if_pos hp]
        have eS : a.saleL = tab a.ds.length (nowOf a.ds) := tab_congr fun i _ => by unfold Au.saleAt; rw [if_pos k, if_pos hp]
        rw [eP, eS]
        exact sale_refone w h k hr
      · by_cases hl : a.supply - a.want = 0
        · have hp : a.plain := Or.inr hl
          have eP : a.saleP = a.price := by unfold Au.saleP; rw [if_pos k, if_pos hp]
          have eS : a.saleL = tab a.ds.length (nowOf a.ds) := tab_congr fun i _ => by unfold Au.saleAt; rw [if_pos k, if_pos hp]
          rw [eP, eS]
          exact sale_refjust w h k (by omega) hl
        · have hp : ¬ a.plain := by rintro (e | e); rw [hrd] at e; omega; exact hl e
          have eP : a.saleP = a.price - a.step := by unfold Au.saleP; rw [if_pos k, if_neg hp]
          have eS : a.saleL = tab a.ds.length (fun i => nowOf a.ds i + gAt (shares (a.supply - a.want) a.gaps) i) := tab_congr fun i _ => by unfold Au.saleAt; rw [if_pos k, if_neg hp]
          rw [eP, eS]
          exact sale_refmore w h k (by omega) (by omega)
    · have eP : a.saleP = 0 := by unfold Au.saleP; rw [if_neg (by omega)]
      have eS : a.saleL = tab a.ds.length (fun _ => 0) := tab_congr fun i _ => by unfold Au.saleAt; rw [if_neg (by omega)]
      rw [eP, eS]
      exact sale_refvoid w h k
theorem soldL_len (a : Au) : a.soldL.length ≤ a.ds.length := by
  unfold Au.soldL
  split
  · simp
  · rw [saleL_len]; exact Nat.le_refl _

set_option maxRecDepth 100000 in
set_option maxHeartbeats 3000000 in
theorem like_calls (w : World) (hp : Lc w p b a) (h : Rf w a R g cap rs) : Calls Try.prog 8 #[.pointer (some ⟨p, 0, none⟩), rfV a R g cap] w fun e w' => e = .returned (.bool true) ∧ Below w.heap.size w w' := by
  obtain ⟨W0, hW0, X0, B0⟩ := rf_box w a R g cap
  have hs0 : W0.heap.size = w.heap.size + 1 := by rw [← hW0]; simp
  rw [show rfA a R g cap = #[.int .i64 a.supply, .int .i64 a.start, .int .i64 a.step, .int .i64 a.state, .slice (some ⟨g, 0, none⟩) R cap] from rfl] at X0
  have h1 := h.one
  have hln := h.inv.len
  have hrd := h.rd
  have hsl := soldL_len a
  obtain ⟨uc, ucp, hus, hcu⟩ := h.now
  rw [tab_len] at hus hcu
  obtain ⟨gu, offu, huc, hgu, _⟩ := hcu 0 (by omega)
  subst huc
  have HLp : Hid _ := fun wx (hb : Below w.heap.size w wx) => hp.below hb
  have HLw : Hid _ := fun wx (hb : Below w.heap.size w wx) => h.below hb
  have HNow : Hid _ := fun wx (hb : Below w.heap.size w wx) => now_ref wx (h.below hb)
  have HWas : Hid _ := fun i (hi : i < a.ds.length) wx (hb : Below w.heap.size w wx) => was_ref wx (h.below hb) i hi
  have HPr : Hid _ := fun wx (hb : Below w.heap.size w wx) => price_ref wx (h.below hb)
  have HLa : Hid _ := fun wx (hb : Below w.heap.size w wx) => last_ref wx (h.below hb)
  have HSa : Hid _ := fun wx (hb : Below w.heap.size w wx) => sale_ref wx (h.below hb)
  have HBy : Hid _ := fun wx (hb : Below w.heap.size w wx) => bytes_ref wx (h.below hb)
  have HSum : Hid (∀ wx, Below w.heap.size w wx → Calls Try.prog 19 #[rs (R - 1)] wx fun e w' => e = .returned (.int .i64 a.want) ∧ Below wx.heap.size wx w') := fun wx hb => by
    have := Calls.belowOf (sum_calls (rs (R - 1)) (tab a.ds.length (nowOf a.ds)) wx ((h.below hb).now) (by rw [tab_len]; omega) (sumSmall (by rw [tab_len]; omega) fun i hi => by
      rw [tab_len] at hi
      rw [tab_at _ hi]
      have := h.inv.dm i hi
      omega))
    rw [sumL_tab] at this
    exact this
  have HNC : Hid (∀ wx, Below w.heap.size w wx → ∀ i, i < a.ds.length → wx.cell? ⟨gu, offu + i, none⟩ = some (.int .i64 (nowOf a.ds i))) := fun wx hb i hi => by
    obtain ⟨g1, o1, e1, _, e2⟩ := hcu i hi
    injection e1 with e1
    injection e1 with e3 e4
    subst e3 e4
    rw [tab_at _ hi] at e2
    exact (hb.cell (p := ⟨gu, offu + i, none⟩) hgu).trans e2
  unfold rfV at HNow HWas HPr HLa HSa HBy
  rw [show rfA a R g cap = #[.int .i64 a.supply, .int .i64 a.start, .int .i64 a.step, .int .i64 a.state, .slice (some ⟨g, 0, none⟩) R cap] from rfl] at HNow HPr HWas HLa HSa HBy
  rw [hus] at HNow HSum
  have HRD : Hid _ := hrd
  clear hcu hus h hp hrd
  unfold rfV
  rw [show rfA a R g cap = #[.int .i64 a.supply, .int .i64 a.start, .int .i64 a.step, .int .i64 a.state, .slice (some ⟨g, 0, none⟩) R cap] from rfl]
  go_enter Try.func8, Try.ntmps8
  go_wp2_with fail
  refine Calls.mono (sale_prog W0 (HLp.out W0 B0)) ?_
  rintro e w1 ⟨v1, rfl, rd1, b1⟩
  have z1 := b1.size
  have X1 := X0.below b1
  have B1 : Below w.heap.size w w1 := B0.trans (b1.mono (by omega))
  have c0 : w1.cell? ⟨w.heap.size, 0, none⟩ = some (.int .i64 a.supply) := X1.cell rfl
  have c1 : w1.cell? ⟨w.heap.size, 1, none⟩ = some (.int .i64 a.start) := X1.cell rfl
  have c2 : w1.cell? ⟨w.heap.size, 2, none⟩ = some (.int .i64 a.step) := X1.cell rfl
  have c3 : w1.cell? ⟨w.heap.size, 3, none⟩ = some (.int .i64 a.state) := X1.cell rfl
  have c4 : w1.cell? ⟨w.heap.size, 4, none⟩ = some (.slice (some ⟨g, 0, none⟩) R cap) := X1.cell rfl
  go_wp2_with fail
  refine Calls.mono (HSa.out w1 B1) ?_
  rintro e w2 ⟨v2, rfl, rd2, b2⟩
  have z2 := b2.size
  have X2 := X1.below b2
  have B2 : Below w.heap.size w w2 := B1.trans (b2.mono (by omega))
  have rd1' := rd1.below b2
  clear c0 c1 c2 c3 c4 X0 X1 B0 b1 b2 rd1
  have hne := bw_some w2
  have c0 : w2.cell? ⟨w.heap.size, 0, none⟩ = some (.int .i64 a.supply) := X2.cell rfl
  have c1 : w2.cell? ⟨w.heap.size, 1, none⟩ = some (.int .i64 a.start) := X2.cell rfl
  have c2 : w2.cell? ⟨w.heap.size, 2, none⟩ = some (.int .i64 a.step) := X2.cell rfl
  have c3 : w2.cell? ⟨w.heap.size, 3, none⟩ = some (.int .i64 a.state) := X2.cell rfl
  have c4 : w2.cell? ⟨w.heap.size, 4, none⟩ = some (.slice (some ⟨g, 0, none⟩) R cap) := X2.cell rfl
  have y0 := fun y : BW w2 => y.cell c0
  have y1 := fun y : BW w2 => y.cell c1
  have y2 := fun y : BW w2 => y.cell c2
  have y3 := fun y : BW w2 => y.cell c3
  have y4 := fun y : BW w2 => y.cell c4
  have HB : Hid (∀ y : BW w2, Below w.heap.size w y.w) := fun y => B2.trans (y.h.mono (by omega))
  have q0 : Hid (∀ y : BW w2, _) := fun y : BW w2 => demand_calls y.w (HLp.out y.w (HB.out y))
  have q1 : Hid (∀ y : BW w2, _) := fun y : BW w2 => HNow.out y.w (HB.out y)
  have q2 : Hid (∀ y : BW w2, _) := fun y : BW w2 => HSum.out y.w (HB.out y)
  have q3 : Hid (∀ y : BW w2, _) := fun y : BW w2 => price_calls y.w (HLp.out y.w (HB.out y))
  have q4 : Hid (∀ y : BW w2, _) := fun y : BW w2 => HPr.out y.w (HB.out y)
  have q5 : Hid (∀ y : BW w2, _) := fun y : BW w2 => last_calls y.w (HLp.out y.w (HB.out y))
  have q6 : Hid (∀ y : BW w2, _) := fun y : BW w2 => HLa.out y.w (HB.out y)
  have q7 : Hid (∀ y : BW w2, _) := fun y : BW w2 => Calls.belowOf (supply_calls y.w (HLp.out y.w (HB.out y)))
  have q8 : Hid (∀ y : BW w2, Calls Try.prog 25 #[.pointer (some ⟨p, 0, none⟩)] y.w fun e w' => e = .returned (.int .i64 (R : Int)) ∧ Below y.w.heap.size y.w w') := fun y => by
    have := Calls.belowOf (round_calls y.w (HLp.out y.w (HB.out y)))
    rw [HRD.out] at this
    exact this
  have q9 : Hid (∀ y : BW w2, _) := fun y : BW w2 => Calls.belowOf (state_calls y.w (HLp.out y.w (HB.out y)))
  have qa : Hid (∀ y : BW w2, _) := fun y : BW w2 => numbers_true v1 v2 a.soldL y.w (rd1'.below y.h) (rd2.below y.h) (by omega)
  have HX2 : Hid _ := X2
  clear X2 rd1' rd2 hsl
  generalize a.want = x0 at *
  generalize a.price = x1 at *
  generalize a.last = x2 at *
  generalize a.soldE = x3 at *
  generalize a.saleP = x4 at *
  go_wp2_with fail
  refine wp_region_below (by kernel_rfl) (by kernel_rfl) ?_
  repeat (quiet_step (first | (go_at_call 18; exact BW.call _ (q0.out _)) | (go_at_call 20; exact BW.call _ (q1.out _)) | (go_at_call 19; exact BW.call _ (q2.out _)) | (go_at_call 12; exact BW.call _ (q3.out _)) | (go_at_call 21; exact BW.call _ (q4.out _)) | (go_at_call 22; exact BW.call _ (q5.out _)) | (go_at_call 23; exact BW.call _ (q6.out _)) | (go_at_call 24; exact BW.call _ (q7.out _)) | (go_at_call 25; exact BW.call _ (q8.out _)) | (go_at_call 26; exact BW.call _ (q9.out _)) | (go_at_call 27; exact BW.call _ (qa.out _))))
  refine wpQuiet_nil ?_
  rintro w4 ⟨⟨_, b4⟩, rfl⟩
  have z4 := b4.size
  have X4 := Blk.below HX2.out b4
  have B4 : Below w.heap.size w w4 := B2.trans (b4.mono (by omega))
  clear y0 y1 y2 y3 y4 q0 q1 q2 q3 q4 q5 q6 q7 q8 q9 qa hne c0 c1 c2 c3 c4 HB HX2 b4
  go_wp2
  go_loopw [11] (fun i wr => ∃ z : Int, -1 ≤ z ∧ z ≤ a.ds.length + 1 ∧ i = .int .i64 z ∧ Below w.heap.size w wr ∧ Blk wr w.heap.size #[.int .i64 a.supply, .int .i64 a.start, .int .i64 a.step, .int .i64 a.state, .slice (some ⟨g, 0, none⟩) R cap] 30 ∧ w.heap.size + 1 ≤ wr.heap.size) (fun i _ => ((a.ds.length : Int) + 1 - intOf i).toNat)
  case atStart => exact ⟨-1, by omega, by omega, rfl, B4, X4, by omega⟩
  case round =>
    clear B4 X4
    obtain ⟨z, hz0, hz1, rfl, br, XR, hzr⟩ := hrel
    have r0 : wr.cell? ⟨w.heap.size, 0, none⟩ = some (.int .i64 a.supply) := XR.cell rfl
    have r1 : wr.cell? ⟨w.heap.size, 1, none⟩ = some (.int .i64 a.start) := XR.cell rfl
    have r2 : wr.cell? ⟨w.heap.size, 2, none⟩ = some (.int .i64 a.step) := XR.cell rfl
    have r3 : wr.cell? ⟨w.heap.size, 3, none⟩ = some (.int .i64 a.state) := XR.cell rfl
    have r4 : wr.cell? ⟨w.heap.size, 4, none⟩ = some (.slice (some ⟨g, 0, none⟩) R cap) := XR.cell rfl
    go_wp2_with fail
    refine Calls.mono (HNow.out wr br) ?_
    rintro e w5 ⟨rfl, b5⟩
    have z5 := b5.size
    have X5 := XR.below b5
    have B5 : Below w.heap.size w w5 := br.trans (b5.mono (by omega))
    clear b5
    clear r0 r1 r2 r3 r4 br XR
    have hwz : z ≤ 1000 := by omega
    by_cases hle : z ≤ a.ds.length
    · have hd : decide (z ≤ (a.ds.length : Int)) = true := decide_eq_true hle
      by_cases hn : z < 0
      · have hd1 : decide (z < 0) = true := decide_eq_true hn
        go_wp2_with fail
        refine Calls.mono (wants_bad w5 (HLp.out w5 B5) z (by omega)) ?_
        rintro e w6 ⟨rfl, b6⟩
        have z6 := b6.size
        have X6 := X5.below b6
        have B6 : Below w.heap.size w w6 := B5.trans (b6.mono (by omega))
        clear X5 b6
        go_wp2
        refine ⟨⟨z + 1, by omega, by omega, rfl, B6, X6, by omega⟩, by simp [intOf]; omega⟩
      · have hd1 : decide (z < 0) = false := decide_eq_false hn
        by_cases he : z = a.ds.length
        · have hd2 : (z == (a.ds.length : Int)) = true := by simpa using he
          have HE : Hid _ := he
          have HWB : Hid _ := wants_bad w5 (HLp.out w5 B5) z (by omega)
          clear he
          go_wp2_with fail
          refine Calls.mono HWB.out ?_
          rintro e w6 ⟨rfl, b6⟩
          have z6 := b6.size
          have X6 := X5.below b6
          have B6 : Below w.heap.size w w6 := B5.trans (b6.mono (by omega))
          clear X5 b6
          have r0 : w6.cell? ⟨w.heap.size, 0, none⟩ = some (.int .i64 a.supply) := X6.cell rfl
          have r1 : w6.cell? ⟨w.heap.size, 1, none⟩ = some (.int .i64 a.start) := X6.cell rfl
          have r2 : w6.cell? ⟨w.heap.size, 2, none⟩ = some (.int .i64 a.step) := X6.cell rfl
          have r3 : w6.cell? ⟨w.heap.size, 3, none⟩ = some (.int .i64 a.state) := X6.cell rfl
          have r4 : w6.cell? ⟨w.heap.size, 4, none⟩ = some (.slice (some ⟨g, 0, none⟩) R cap) := X6.cell rfl
          go_wp2_with fail
          refine Calls.mono (HNow.out w6 B6) ?_
          rintro e w7 ⟨rfl, b7⟩
          have z7 := b7.size
          have X7 := X6.below b7
          have B7 : Below w.heap.size w w7 := B6.trans (b7.mono (by omega))
          clear b7
          clear r0 r1 r2 r3 r4 X6
          go_wp2
          have he := HE.out
          refine ⟨⟨z + 1, by omega, by omega, rfl, B7, X7, by omega⟩, by simp [intOf]; omega⟩
        · have hd2 : (z == (a.ds.length : Int)) = false := by simpa using he
          obtain ⟨k, rfl⟩ := Int.eq_ofNat_of_zero_le (show 0 ≤ z by omega)
          have hlt : k < a.ds.length := by omega
          have hki : (k : Int) < a.ds.length := by omega
          go_wp2_with fail
          refine Calls.mono (wants_ok w5 (HLp.out w5 B5) (k : Int) (by omega) (by omega)) ?_
          rintro e w6 ⟨rfl, b6⟩
          rw [Int.toNat_natCast]
          have z6 := b6.size
          have X6 := X5.below b6
          have B6 : Below w.heap.size w w6 := B5.trans (b6.mono (by omega))
          clear X5 b6
          have r0 : w6.cell? ⟨w.heap.size, 0, none⟩ = some (.int .i64 a.supply) := X6.cell rfl
          have r1 : w6.cell? ⟨w.heap.size, 1, none⟩ = some (.int .i64 a.start) := X6.cell rfl
          have r2 : w6.cell? ⟨w.heap.size, 2, none⟩ = some (.int .i64 a.step) := X6.cell rfl
          have r3 : w6.cell? ⟨w.heap.size, 3, none⟩ = some (.int .i64 a.state) := X6.cell rfl
          have r4 : w6.cell? ⟨w.heap.size, 4, none⟩ = some (.slice (some ⟨g, 0, none⟩) R cap) := X6.cell rfl
          go_wp2_with fail
          refine Calls.mono (HNow.out w6 B6) ?_
          rintro e w7 ⟨rfl, b7⟩
          have z7 := b7.size
          have X7 := X6.below b7
          have B7 : Below w.heap.size w w7 := B6.trans (b7.mono (by omega))
          clear b7
          clear r0 r1 r2 r3 r4 X6
          have r0 : w7.cell? ⟨w.heap.size, 0, none⟩ = some (.int .i64 a.supply) := X7.cell rfl
          have r1 : w7.cell? ⟨w.heap.size, 1, none⟩ = some (.int .i64 a.start) := X7.cell rfl
          have r2 : w7.cell? ⟨w.heap.size, 2, none⟩ = some (.int .i64 a.step) := X7.cell rfl
          have r3 : w7.cell? ⟨w.heap.size, 3, none⟩ = some (.int .i64 a.state) := X7.cell rfl
          have r4 : w7.cell? ⟨w.heap.size, 4, none⟩ = some (.slice (some ⟨g, 0, none⟩) R cap) := X7.cell rfl
          go_wp2_with fail
          refine Calls.mono (HWas.out k hlt w7 B7) ?_
          rintro e w8 ⟨rfl, b8⟩
          have z8 := b8.size
          have X8 := X7.below b8
          have B8 : Below w.heap.size w w8 := B7.trans (b8.mono (by omega))
          clear r0 r1 r2 r3 r4 X7 b8
          have r0 : w8.cell? ⟨w.heap.size, 0, none⟩ = some (.int .i64 a.supply) := X8.cell rfl
          have r1 : w8.cell? ⟨w.heap.size, 1, none⟩ = some (.int .i64 a.start) := X8.cell rfl
          have r2 : w8.cell? ⟨w.heap.size, 2, none⟩ = some (.int .i64 a.step) := X8.cell rfl
          have r3 : w8.cell? ⟨w.heap.size, 3, none⟩ = some (.int .i64 a.state) := X8.cell rfl
          have r4 : w8.cell? ⟨w.heap.size, 4, none⟩ = some (.slice (some ⟨g, 0, none⟩) R cap) := X8.cell rfl
          go_wp2_with fail
          refine Calls.mono (HNow.out w8 B8) ?_
          rintro e w9 ⟨rfl, b9⟩
          have z9 := b9.size
          have X9 := X8.below b9
          have B9 : Below w.heap.size w w9 := B8.trans (b9.mono (by omega))
          clear b9
          clear r0 r1 r2 r3 r4 X8
          have tn := HNC.out w9 B9 k hlt
          generalize nowOf a.ds k = nk at *
          generalize wasOf a.ds k = wk at *
          go_wp2
          refine ⟨⟨(k : Int) + 1, by omega, by omega, rfl, B9, X9, by omega⟩, by simp [intOf]; omega⟩
    · have hd : decide (z ≤ (a.ds.length : Int)) = false := decide_eq_false hle
      have hne := bw_some w5
      have r0 : w5.cell? ⟨w.heap.size, 0, none⟩ = some (.int .i64 a.supply) := X5.cell rfl
      have r1 : w5.cell? ⟨w.heap.size, 1, none⟩ = some (.int .i64 a.start) := X5.cell rfl
      have r2 : w5.cell? ⟨w.heap.size, 2, none⟩ = some (.int .i64 a.step) := X5.cell rfl
      have r3 : w5.cell? ⟨w.heap.size, 3, none⟩ = some (.int .i64 a.state) := X5.cell rfl
      have r4 : w5.cell? ⟨w.heap.size, 4, none⟩ = some (.slice (some ⟨g, 0, none⟩) R cap) := X5.cell rfl
      have y0 := fun y : BW w5 => y.cell r0
      have y1 := fun y : BW w5 => y.cell r1
      have y2 := fun y : BW w5 => y.cell r2
      have y3 := fun y : BW w5 => y.cell r3
      have y4 := fun y : BW w5 => y.cell r4
      have q1 : Hid (∀ y : BW w5, _) := fun y : BW w5 => bytes_calls y.w (HLp.out y.w (B5.trans (y.h.mono (by omega))))
      have q2 : Hid (∀ y : BW w5, _) := fun y : BW w5 => HBy.out y.w (B5.trans (y.h.mono (by omega)))
      generalize auB a = bs at *
      go_wp2_with fail
      refine wp_region_below (by kernel_rfl) (by kernel_rfl) ?_
      repeat (quiet_step (first | (go_at_call 30; exact BW.call _ (q1.out _)) | (go_at_call 31; exact BW.call _ (q2.out _))))
      refine wpQuiet_nil ?_
      rintro w7 ⟨⟨_, b7⟩, rfl⟩
      go_wp2
      go_ret
      exact ⟨by simp, B5.trans (b7.mono (by omega))⟩
end Go.Proofs.Yteinfckkpkbnlaa
