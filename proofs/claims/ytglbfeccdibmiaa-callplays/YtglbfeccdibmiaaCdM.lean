/- The document's Amend. -/
import Derived.Test.YtglbfeccdibmiaaCdP
import Derived.Test.YtglbfeccdibmiaaCaZa
namespace Go.Proofs.Ytglbfeccdibmiaa
open Go.RowKit
set_option linter.unusedSimpArgs false
set_option linter.unusedVariables false
theorem refAmend_results {w' : World} {c0 c1 v : Value} {r : Nat} (X : Blk w' r #[c0, c1] 27) {t : Array Value} (h1 : t.getD 10 undef = .pointer (some ⟨r, 0, none⟩)) (h2 : t.getD 11 undef = v) :
    (results Try.f9 t).run Try.prog w' = .ok (.tuple #[.agg #[c0, c1], v]) w' := by
  have a0 := X.cell (o := 0) rfl
  have a1 := X.cell (o := 1) rfl
  simp only [Array.getD_eq_getD_getElem?] at h1 h2
  simp [results, Try.results9, go_sem, h1, h2, a0, a1]
theorem set_app6 {A : List Value} (hA : A.length = 6) (B : List Value) (k : Nat) (u : Value) : (A ++ B).set (k + 6) u = A ++ B.set k u := by
  rw [List.set_append_right _ _ (by omega), hA, show k + 6 - 6 = k by omega]
theorem odL_set6 : ∀ {X : List Od} {i : Nat} {o : Od} (q : Od), X[i]? = some o → ((((((odL X).set (i * 6) (.int .i64 q.id)).set (i * 6 + 1) (.int .i64 q.own)).set (i * 6 + 2) (.int .i64 q.pr)).set (i * 6 + 3) (.int .i64 q.am)).set (i * 6 + 4) (.int .i64 q.pl)).set (i * 6 + 5) (.bool q.by) = odL (X.set i q)
  | x :: X, 0, o, q, h => by
    rw [odL_cons, List.set_cons_zero, odL_cons]
    rfl
  | x :: X, i + 1, o, q, h => by
    have h' : X[i]? = some o := by simpa using h
    rw [odL_cons, List.set_cons_succ, odL_cons, show (i + 1) * 6 = i * 6 + 6 by omega, show i * 6 + 6 + 1 = i * 6 + 1 + 6 by omega, show i * 6 + 6 + 2 = i * 6 + 2 + 6 by omega, show i * 6 + 6 + 3 = i * 6 + 3 + 6 by omega, show i * 6 + 6 + 4 = i * 6 + 4 + 6 by omega, show i * 6 + 6 + 5 = i * 6 + 5 + 6 by omega]
    rw [set_app6 (oC_len x), set_app6 (oC_len x), set_app6 (oC_len x), set_app6 (oC_len x), set_app6 (oC_len x), set_app6 (oC_len x), odL_set6 q h']
set_option maxHeartbeats 8000000 in
set_option maxRecDepth 100000 in
theorem refAmend_calls (lv : Value) (x y pr am : Int) (B : Bo) (hI : BInv B) (w : World) (h : Ods w lv B.os) (r : Int × Bo) (hr : B.amend x y pr am = r) :
    Calls Try.prog 9 #[.agg #[lv, .int .i64 B.nx], .int .i64 x, .int .i64 y, .int .i64 pr, .int .i64 am] w (RefP lv w r) := by
  obtain ⟨i6, hi6, hy0, hy1, hy2⟩ := info_parts infoOd6
  have hlen := hI.len
  have hnx1 := hI.nx1
  have hnx2 := hI.nx2
  obtain ⟨W1, hW1, X1, B1, Z1⟩ : ∃ W1, w.alloc (.cells #[lv, .int .i64 B.nx] 27) = W1 ∧ Blk W1 w.heap.size #[lv, .int .i64 B.nx] 27 ∧ Below w.heap.size w W1 ∧ W1.heap.size = w.heap.size + 1 := ⟨_, rfl, blk_new _ _ _ _ rfl, by go_grown, by simp⟩
  obtain ⟨W3, hW3, X3, B3, Z3⟩ : ∃ W3, W1.alloc (.cells #[.slice none 0 0, .int .i64 0] 27) = W3 ∧ Blk W3 (w.heap.size + 1) #[.slice none 0 0, .int .i64 0] 27 ∧ Below W1.heap.size W1 W3 ∧ W3.heap.size = w.heap.size + 2 := ⟨_, rfl, blk_new _ _ _ _ (by omega), by go_grown, by simp; omega⟩
  have Y1 : Blk W3 w.heap.size #[lv, .int .i64 B.nx] 27 := X1.below B3
  have B13 : Below w.heap.size w W3 := B1.trans (B3.mono (by omega))
  have HX3 : Hid _ := X3
  have HB : Hid _ := B13
  have HZ : Hid (W3.heap.size = w.heap.size + 2) := Z3
  have HL : Hid _ := h
  have y0 : W3.cell? ⟨w.heap.size, 0, none⟩ = some lv := Y1.cell rfl
  have y1 : W3.cell? ⟨w.heap.size, 1, none⟩ = some (.int .i64 B.nx) := Y1.cell rfl
  have HOW : Hid _ := refOwn_calls lv B.os B.nx x y W3 (Ods.below h B13) (by omega)
  have HY1 : Hid _ := Y1
  clear X1 X3 B1 B3 B13 Z3 h hI Y1
  unfold Bo.amend at hr
  rcases fnd_cases B.os x with ⟨f1, _⟩ | ⟨i, o, f1, f2, f3, f4⟩
  · rw [if_pos (by rw [f1]; decide)] at hr
    have e1 : ownR B.os x y = (0, 3) := by unfold ownR; rw [if_pos (by rw [f1]; decide)]
    rw [e1] at HOW
    subst hr
    clear f1 e1
    go_enter Try.func9, Try.ntmps9
    go_wp2_with fail
    refine Calls.mono HOW.out ?_
    rintro e w4 ⟨rfl, b4⟩
    have y0' := keepY b4 y0
    have y1' := keepY b4 y1
    have hzz := HZ.out
    clear y0 y1
    have XX : Blk _ (w.heap.size + 1) #[.slice none 0 0, .int .i64 0] 27 := Blk.below HX3.out b4
    have ON9 : (#[lv, .int .i64 B.nx] : Array Value).all (·.oneCell') = true := oneBkO (w := w) (l := B.os) HL.out _
    obtain ⟨W9, hW9, X9, _⟩ := setRow_named XX #[lv, .int .i64 B.nx]
    go_wp2_with ((with_reducible refine st_row (ty := 27) XX (infoBk2 _ _) (sameBk2 _ _ _ _) ON9 hW9 ?_ ?_ ?_); kernel_rfl; kernel_rfl)
    refine bodyPost_ret (v := .tuple #[.agg #[lv, .int .i64 B.nx], .int .i64 3]) (refAmend_results X9 rfl rfl) rfl ?_
    have hb9 := below_row (Below.trans HB.out (b4.mono (by omega))) hW9 (by omega)
    exact ⟨lv, rfl, Ods.below HL.out hb9, hb9, fun k hk => Or.inl hk⟩
  · rw [if_neg (by rw [f1]; omega), gtB_some f1 f2 f3, f1, Int.toNat_natCast] at hr
    by_cases hy : o.own = y
    · rw [if_pos hy] at hr
      have e1 : ownR B.os x y = ((i : Int), 0) := by unfold ownR; rw [if_neg (by rw [f1]; omega), gtB_some f1 f2 f3, if_pos hy, f1]
      rw [e1] at HOW
      obtain ⟨la, lc, hlv, hcells⟩ := id HL.out
      subst hlv
      obtain ⟨g, off, rfl, hcs⟩ : ∃ g off, la = some ⟨g, off, none⟩ ∧ ∀ j u, (oC o)[j]? = some u → w.cell? ⟨g, off + i * 6 + j, none⟩ = some u := by
        rcases hcells with hn | ⟨g, off, e, hx⟩
        · exfalso; rw [hn] at f4; simp at f4
        · exact ⟨g, off, e, fun j u hu => hx i o j u f2 hu⟩
      have HCS : Hid _ := hcs
      have HO2 : Hid _ := f2
      have HRR : Hid _ := hr
      have hi0 : (0 : Int) ≤ (i : Int) := by omega
      have hi1 : (i : Int) < (B.os.length : Int) := by omega
      have hiN : i < B.os.length := f4
      obtain ⟨st, HST⟩ : ∃ st : Bool, Hid ((o.pr == pr && decide (am ≤ o.am)) = st) := ⟨_, rfl⟩
      have HML : Hid (B.os.length ≤ 64) := hlen
      clear f1 f2 f3 f4 e1 hy hr hcs hcells
      go_enter Try.func9, Try.ntmps9
      go_wp2_with fail
      refine Calls.mono HOW.out ?_
      rintro e w4 ⟨rfl, b4⟩
      have hzz := HZ.out
      have z4 := b4.size
      have hb4 : Below w.heap.size w w4 := Below.trans HB.out (b4.mono (by omega))
      have y0' := keepY b4 y0
      have y1' := keepY b4 y1
      have m0 : w4.cell? ⟨g, off + i * 6, none⟩ = some (.int .i64 o.id) := keepY hb4 (HCS.out 0 _ rfl)
      have m1 : w4.cell? ⟨g, off + i * 6 + 1, none⟩ = some (.int .i64 o.own) := keepY hb4 (HCS.out 1 _ rfl)
      have m2 : w4.cell? ⟨g, off + i * 6 + 2, none⟩ = some (.int .i64 o.pr) := keepY hb4 (HCS.out 2 _ rfl)
      have m3 : w4.cell? ⟨g, off + i * 6 + 3, none⟩ = some (.int .i64 o.am) := keepY hb4 (HCS.out 3 _ rfl)
      have m4 : w4.cell? ⟨g, off + i * 6 + 4, none⟩ = some (.int .i64 o.pl) := keepY hb4 (HCS.out 4 _ rfl)
      have m5 : w4.cell? ⟨g, off + i * 6 + 5, none⟩ = some (.bool o.by) := keepY hb4 (HCS.out 5 _ rfl)
      obtain ⟨q, hq⟩ : ∃ q, w4.heap.size = q := ⟨_, rfl⟩
      obtain ⟨W5, hW5, X5, B5, Z5⟩ : ∃ W5, w4.alloc (.cells #[.int .i64 o.id, .int .i64 o.own, .int .i64 o.pr, .int .i64 o.am, .int .i64 o.pl, .bool o.by] 31) = W5 ∧ Blk W5 q #[.int .i64 o.id, .int .i64 o.own, .int .i64 o.pr, .int .i64 o.am, .int .i64 o.pl, .bool o.by] 31 ∧ Below w4.heap.size w4 W5 ∧ W5.heap.size = q + 1 := ⟨_, rfl, blk_new _ _ _ _ hq.symm, by go_grown, by simp; omega⟩
      have x2 : W5.cell? ⟨q, 2, none⟩ = some (.int .i64 o.pr) := X5.cell rfl
      have x3 : W5.cell? ⟨q, 3, none⟩ = some (.int .i64 o.am) := X5.cell rfl
      have XB5 := (Blk.below HY1.out b4).below B5
      have XR5 := (Blk.below HX3.out b4).below B5
      have HB5 : Hid (Below w.heap.size w W5) := hb4.trans (B5.mono (by omega))
      have HX5 : Hid _ := X5
      have HXB : Hid _ := XB5
      have HXR : Hid _ := XR5
      have hqb : w.heap.size + 2 ≤ q := by omega
      have HQ : Hid _ := hq
      have HZ5 : Hid _ := Z5
      clear b4 z4 y0 y1 hb4 XB5 XR5 X5 Z5 B5 hzz
      go_upto_region 5 with fail
      try rw [hq]
      clear hq hW5
      go_cut [15] (fun bv wx => bv = .bool st ∧ wx = W5)
      case first =>
        by_cases t1 : o.pr = pr
        · have d1 : (o.pr == pr) = true := by simpa using t1
          have HS : Hid (st = decide (am ≤ o.am)) := by have := HST.out; rw [d1] at this; rw [← this]; rfl
          clear t1
          go_wp2_with fail
          go_meet
          exact ⟨by rw [HS.out], rfl⟩
        · have d1 : (o.pr == pr) = false := by simpa using t1
          have HS : Hid (st = false) := by have := HST.out; rw [d1] at this; rw [← this]; rfl
          clear t1
          go_wp2_with fail
          go_meet
          exact ⟨by rw [HS.out], rfl⟩
      case rest =>
        obtain ⟨rfl, h5⟩ := hcut
        obtain rfl := h5.symm
        clear m0 m1 m2 m3 m4 m5 y0' y1'
        have X5 : Blk W5 q #[.int .i64 o.id, .int .i64 o.own, .int .i64 o.pr, .int .i64 o.am, .int .i64 o.pl, .bool o.by] 31 := HX5.out
        have f2 : W5.frozen? ⟨q, 2, none⟩ = false := X5.frozen
        obtain ⟨W6, hW6, X6, O6⟩ : ∃ W6, W5.setCell ⟨q, 2, none⟩ (.int .i64 pr) = W6 ∧ Blk W6 q #[.int .i64 o.id, .int .i64 o.own, .int .i64 pr, .int .i64 o.am, .int .i64 o.pl, .bool o.by] 31 ∧ Off q W5 W6 := ⟨_, rfl, X5.set 2 _, Off.setCell (Off.refl q W5) (p := ⟨q, 2, none⟩) rfl _⟩
        have f3 : W6.frozen? ⟨q, 3, none⟩ = false := X6.frozen
        have x3' : W6.cell? ⟨q, 3, none⟩ = some (.int .i64 o.am) := X6.cell rfl
        obtain ⟨W7, hW7, X7, O7⟩ : ∃ W7, W6.setCell ⟨q, 3, none⟩ (.int .i64 am) = W7 ∧ Blk W7 q #[.int .i64 o.id, .int .i64 o.own, .int .i64 pr, .int .i64 am, .int .i64 o.pl, .bool o.by] 31 ∧ Off q W6 W7 := ⟨_, rfl, X6.set 3 _, Off.setCell (Off.refl q W6) (p := ⟨q, 3, none⟩) rfl _⟩
        have O57 : Off q W5 W7 := O6.trans O7
        have z0 : W7.cell? ⟨q, 0, none⟩ = some (.int .i64 o.id) := X7.cell rfl
        have z1 : W7.cell? ⟨q, 1, none⟩ = some (.int .i64 o.own) := X7.cell rfl
        have z2 : W7.cell? ⟨q, 2, none⟩ = some (.int .i64 pr) := X7.cell rfl
        have z3 : W7.cell? ⟨q, 3, none⟩ = some (.int .i64 am) := X7.cell rfl
        have z4 : W7.cell? ⟨q, 4, none⟩ = some (.int .i64 o.pl) := X7.cell rfl
        have z5 : W7.cell? ⟨q, 5, none⟩ = some (.bool o.by) := X7.cell rfl
        have HX7 : Hid _ := X7
        have HB7 : Hid (Below w.heap.size w W7) := O57.below (by omega) HB5.out (by have := HZ5.out; omega)
        have HXB7 : Hid _ := Blk.off HXB.out O57 (by omega)
        have HXR7 : Hid _ := Blk.off HXR.out O57 (by omega)
        have hz7 : q + 1 ≤ W7.heap.size := by have := O57.size; have := HZ5.out; omega
        have HRT : Hid _ := right_calls (o.amd pr am) W7
        clear X5 X6 X7 O6 O7 O57 HX5 HXB HXR HB5
        cases hmb : mayB (o.amd pr am)
        · rw [hmb] at HRT
          have HR2 : Hid (r = (1, B)) := by have := HRR.out; unfold Bo.amd at this; rw [if_pos hmb] at this; exact this.symm
          obtain rfl := HR2.out
          clear hmb
          go_wp2_with fail
          refine Calls.mono HRT.out ?_
          rintro e w8 ⟨rfl, g8⟩
          have b8 := g8.below
          have y0 : w8.cell? ⟨w.heap.size, 0, none⟩ = some _ := keepY b8 (Blk.cell HXB7.out rfl)
          have y1 : w8.cell? ⟨w.heap.size, 1, none⟩ = some (.int .i64 B.nx) := keepY b8 (Blk.cell HXB7.out rfl)
          have HX8 : Hid _ := Blk.below HXR7.out b8
          have HB8 : Hid _ := Below.trans HB7.out (b8.mono (by omega))
          clear x2 x3 f2 f3 x3' z0 z1 z2 z3 z4 z5 b8 g8 hW6 hW7
          have XX : Blk _ (w.heap.size + 1) #[.slice none 0 0, .int .i64 0] 27 := HX8.out
          have ON9 : (#[(.slice (some ⟨g, off, none⟩) B.os.length lc), .int .i64 B.nx] : Array Value).all (·.oneCell') = true := oneBkO (w := w) (l := B.os) HL.out _
          obtain ⟨W9, hW9, X9, _⟩ := setRow_named XX #[(.slice (some ⟨g, off, none⟩) B.os.length lc), .int .i64 B.nx]
          go_wp2_with ((with_reducible refine st_row (ty := 27) XX (infoBk2 _ _) (sameBk2 _ _ _ _) ON9 hW9 ?_ ?_ ?_); kernel_rfl; kernel_rfl)
          refine bodyPost_ret (v := .tuple #[.agg #[(.slice (some ⟨g, off, none⟩) B.os.length lc), .int .i64 B.nx], .int .i64 1]) (refAmend_results X9 rfl rfl) rfl ?_
          have hb9 := below_row (HB8.out) hW9 (by omega)
          exact ⟨_, rfl, Ods.below HL.out hb9, hb9, fun k hk => Or.inl hk⟩
        · rw [hmb] at HRT
          cases st
          · have HR1 : Hid ((if B.nx = 9007199254740992 then ((2 : Int), B) else (0, (B.rem i).stand (o.amd pr am))) = r) := by
              have := HRR.out
              unfold Bo.amd at this
              rw [if_neg (by rw [hmb]; decide), if_neg (by
                intro hc
                have hs := HST.out
                rw [hc.1, decide_eq_true hc.2] at hs
                simp at hs)] at this
              exact this
            clear hmb
            go_wp2_with fail
            refine Calls.mono HRT.out ?_
            rintro e w8 ⟨rfl, g8⟩
            have b8 := g8.below
            have zz8 := b8.size
            have y0 : w8.cell? ⟨w.heap.size, 0, none⟩ = some _ := keepY b8 (Blk.cell HXB7.out rfl)
            have y1 : w8.cell? ⟨w.heap.size, 1, none⟩ = some (.int .i64 B.nx) := keepY b8 (Blk.cell HXB7.out rfl)
            have HX8 : Hid _ := Blk.below HXR7.out b8
            have HXB8 : Hid _ := Blk.below HXB7.out b8
            have HXO8 : Hid _ := Blk.below HX7.out b8
            have HB8 : Hid _ := Below.trans HB7.out (b8.mono (by omega))
            have hz8 : q + 1 ≤ w8.heap.size := by omega
            clear x2 x3 f2 f3 x3' z0 z1 z2 z3 z4 z5 b8 g8 hW6 hW7 zz8
            by_cases hnx : B.nx = 9007199254740992
            · have HR2 : Hid (r = (2, B)) := by have := HR1.out; rw [if_pos hnx] at this; exact this.symm
              obtain rfl := HR2.out
              have dn : decide ((9007199254740992 : Int) ≤ B.nx) = true := decide_eq_true (by omega)
              clear hnx
              have XX : Blk _ (w.heap.size + 1) #[.slice none 0 0, .int .i64 0] 27 := HX8.out
              have ON9 : (#[(.slice (some ⟨g, off, none⟩) B.os.length lc), .int .i64 B.nx] : Array Value).all (·.oneCell') = true := oneBkO (w := w) (l := B.os) HL.out _
              obtain ⟨W9, hW9, X9, _⟩ := setRow_named XX #[(.slice (some ⟨g, off, none⟩) B.os.length lc), .int .i64 B.nx]
              go_wp2_with ((with_reducible refine st_row (ty := 27) XX (infoBk2 _ _) (sameBk2 _ _ _ _) ON9 hW9 ?_ ?_ ?_); kernel_rfl; kernel_rfl)
              refine bodyPost_ret (v := .tuple #[.agg #[(.slice (some ⟨g, off, none⟩) B.os.length lc), .int .i64 B.nx], .int .i64 2]) (refAmend_results X9 rfl rfl) rfl ?_
              have hb9 := below_row (HB8.out) hW9 (by omega)
              exact ⟨_, rfl, Ods.below HL.out hb9, hb9, fun k hk => Or.inl hk⟩
            · have HR2 : Hid (r = (0, (B.rem i).stand (o.amd pr am))) := by have := HR1.out; rw [if_neg hnx] at this; exact this.symm
              obtain rfl := HR2.out
              have dn : decide ((9007199254740992 : Int) ≤ B.nx) = false := decide_eq_false (by omega)
              have hwn : IntKind.i64.wrap (B.nx + 1) = B.nx + 1 := by rw [IntKind.wrap_i64]; omega
              have hel : (B.os.eraseIdx i).length ≤ 64 := Nat.le_trans (List.length_eraseIdx_le ..) HML.out
              have HWO : Hid (∀ wx, Ods wx (.slice (some ⟨g, off, none⟩) B.os.length lc) B.os → Calls Try.prog 26 #[.slice (some ⟨g, off, none⟩) B.os.length lc, .int .i64 i] wx fun e w' => ∃ v', e = .returned v' ∧ w'.ownsRow wx.heap.size 31 6 v' (B.os.eraseIdx i).length (odL (B.os.eraseIdx i)) ∧ Below wx.heap.size wx w') := fun wx hx => by
                have := without_calls (.slice (some ⟨g, off, none⟩) B.os.length lc) B.os i wx hx (by omega)
                rw [wo_nat] at this
                exact this
              have XO8 : Blk w8 q #[.int .i64 o.id, .int .i64 o.own, .int .i64 pr, .int .i64 am, .int .i64 o.pl, .bool o.by] 31 := HXO8.out
              have f4 : w8.frozen? ⟨q, 4, none⟩ = false := XO8.frozen
              have x4 : w8.cell? ⟨q, 4, none⟩ = some (.int .i64 o.pl) := XO8.cell rfl
              obtain ⟨WR, hWR, XO6, hother⟩ : ∃ WR, w8.setCell ⟨q, 4, none⟩ (.int .i64 B.nx) = WR ∧ Blk WR q #[.int .i64 o.id, .int .i64 o.own, .int .i64 pr, .int .i64 am, .int .i64 B.nx, .bool o.by] 31 ∧ Off q w8 WR := ⟨_, rfl, XO8.set 4 _, Off.setCell (Off.refl q w8) (p := ⟨q, 4, none⟩) rfl _⟩
              have XB6 := Blk.off HXB8.out hother (by omega)
              have XR0 := Blk.off HX8.out hother (by omega)
              have hbR : Below w.heap.size w WR := hother.below (by omega) HB8.out (by omega)
              have HLR : Hid _ := Ods.below HL.out hbR
              have hzR := hother.size
              obtain ⟨R, hR⟩ : ∃ R, w.heap.size + 1 = R := ⟨_, rfl⟩
              have hRlt : R < WR.heap.size := by omega
              have hR0 : w.heap.size ≠ R := by omega
              have hR1 : q ≠ R := by omega
              have hR2 : w.heap.size ≤ R := by omega
              have XR : Blk WR R #[.slice none 0 0, .int .i64 0] 27 := by rw [← hR]; exact XR0
              have HC0 : Hid (∀ wx, Off R WR wx → wx.cell? ⟨w.heap.size, 0, none⟩ = some (.slice (some ⟨g, off, none⟩) B.os.length lc)) := fun wx hx => keepO hx (XB6.cell rfl) hR0
              have HC1 : Hid (∀ wx, Off R WR wx → wx.cell? ⟨w.heap.size, 1, none⟩ = some (.int .i64 B.nx)) := fun wx hx => keepO hx (XB6.cell rfl) hR0
              have HO0 : Hid (∀ wx, Off R WR wx → wx.cell? ⟨q, 0, none⟩ = some (.int .i64 o.id)) := fun wx hx => keepO hx (XO6.cell rfl) hR1
              have HO1 : Hid (∀ wx, Off R WR wx → wx.cell? ⟨q, 1, none⟩ = some (.int .i64 o.own)) := fun wx hx => keepO hx (XO6.cell rfl) hR1
              have HO2 : Hid (∀ wx, Off R WR wx → wx.cell? ⟨q, 2, none⟩ = some (.int .i64 pr)) := fun wx hx => keepO hx (XO6.cell rfl) hR1
              have HO3 : Hid (∀ wx, Off R WR wx → wx.cell? ⟨q, 3, none⟩ = some (.int .i64 am)) := fun wx hx => keepO hx (XO6.cell rfl) hR1
              have HO4 : Hid (∀ wx, Off R WR wx → wx.cell? ⟨q, 4, none⟩ = some (.int .i64 B.nx)) := fun wx hx => keepO hx (XO6.cell rfl) hR1
              have HO5 : Hid (∀ wx, Off R WR wx → wx.cell? ⟨q, 5, none⟩ = some (.bool o.by)) := fun wx hx => keepO hx (XO6.cell rfl) hR1
              have HHR : Hid _ := hR
              clear XO8 XR0 hother XB6 XO6 HRT HX7 HXB7 HXR7 HB7 HX8 HXB8 HXO8 HB8
              go_upto_region 17 with fail
              try rw [hR]
              clear hR hW1 hW3 hWR f4 x4 y0 y1
              refine wp_region_held_drew (S := (fun wx => Off R WR wx)) (by kernel_rfl) (Off.drew (Off.refl _ _)) (fun hS => ?_)
              refine wpAnyH_take (i := 0) (v := (.pointer (some ⟨w.heap.size, 0, none⟩))) rfl (by kernel_rfl) (by kernel_rfl) (by kernel_rfl) (fun _ _ _ h => h) (Or.inl ⟨by rfl, fun wx hS => by go_simp⟩) hS ?_
              refine wpAnyH_take (i := 1) (v := (.slice (some ⟨g, off, none⟩) B.os.length lc)) rfl (by kernel_rfl) (by kernel_rfl) (by kernel_rfl) (fun _ _ _ h => h) (Or.inl ⟨by rfl, fun wx hS => by have s0 := HC0.out wx hS; go_simp⟩) hS ?_
              refine wpAnyH_take (i := 2) (v := (.int .i64 i)) rfl (by kernel_rfl) (by kernel_rfl) (by kernel_rfl) (fun _ _ _ h => h) (Or.inl ⟨by rfl, fun wx hS => by go_simp⟩) hS ?_
              refine wpAnyH_take (i := 4) (v := (.agg #[.int .i64 o.id, .int .i64 o.own, .int .i64 pr, .int .i64 am, .int .i64 B.nx, .bool o.by])) rfl (by kernel_rfl) (by kernel_rfl) (by kernel_rfl) (fun _ _ _ h => h) (Or.inl ⟨by rfl, fun wx hS => by have s0 := HO0.out wx hS; have s1 := HO1.out wx hS; have s2 := HO2.out wx hS; have s3 := HO3.out wx hS; have s4 := HO4.out wx hS; have s5 := HO5.out wx hS; go_simp⟩) hS ?_
              refine wpAnyH_take (i := 7) (v := (.pointer (some ⟨w.heap.size, 1, none⟩))) rfl (by kernel_rfl) (by kernel_rfl) (by kernel_rfl) (fun _ _ _ h => h) (Or.inl ⟨by rfl, fun wx hS => by go_simp⟩) hS ?_
              refine wpAnyH_take (i := 8) (v := (.int .i64 B.nx)) rfl (by kernel_rfl) (by kernel_rfl) (by kernel_rfl) (fun _ _ _ h => h) (Or.inl ⟨by rfl, fun wx hS => by have s0 := HC1.out wx hS; go_simp⟩) hS ?_
              refine wpAnyH_take (i := 9) (v := (.int .i64 (B.nx + 1))) rfl (by kernel_rfl) (by kernel_rfl) (by kernel_rfl) (fun _ _ _ h => h) (Or.inl ⟨by rfl, fun wx hS => by go_simp⟩) hS ?_
              refine wpAnyH_ready (rs := [3, 5]) (by kernel_rfl) (by simp) ?_
              refine AllReadyH.cons rfl (fun K hK => ?_) (AllReadyH.cons rfl (fun K hK => ?_) AllReadyH.nil)
              · go_simp
                refine Calls.mono (HWO.out _ (Ods.below HLR.out ((Below.refl _ _).drew))) ?_
                rintro e6 w6 ⟨v6, rfl, own6, b6⟩
                refine hK.out _ _ (hS.trans (Off.of_below b6)) (fun hS => ?_)
                clear hK
                refine wpAnyH_ready (rs := [5]) (by kernel_rfl) (by simp) ?_
                refine AllReadyH.cons rfl (fun K hK => ?_) AllReadyH.nil
                go_simp
                refine hK.out _ _ (hS.alloc _) (fun hS => ?_)
                clear hK
                refine wpAnyH_ready (rs := [6]) (by kernel_rfl) (by simp) ?_
                refine AllReadyH.cons rfl (fun K hK => ?_) AllReadyH.nil
                have ROW := World.ownsRow.alloc (ownsRow_weakO (base2 := WR.heap.size) own6 (Nat.le_refl _)) (.cells #[.int .i64 o.id, .int .i64 o.own, .int .i64 pr, .int .i64 am, .int .i64 B.nx, .bool o.by] 31)
                refine step_ifB rfl ?_
                refine wp_append_own _ (.tmp 73) (.tmp 75) 25 rfl WR.heap.size 31 i6 (.agg #[.int .i64 0, .int .i64 0, .int .i64 0, .int .i64 0, .int .i64 0, .bool false]) 6 48 Try.underlying25 hi6 hy0 hy1 hy2 rfl (by decide) v6 (B.os.eraseIdx i).length (odL (B.os.eraseIdx i)) rfl ROW ⟨w6.heap.size, 0, none⟩ 1 1 (oC ((o.amd pr am).at_ B.nx)) rfl rfl (six_new w6 ((o.amd pr am).at_ B.nx) _) (oC_oneO _) (by unfold maxLen; omega) (by omega) (by have := hS.size; omega) ?_
                intro v7 w7 own7 gr7 _
                obtain ⟨oa7, oc7, rfl⟩ := own_form own7
                have X7 : Blk w7 R #[.slice none 0 0, .int .i64 0] 27 := (gr7.block R (by have := hS.size; omega) (fun q => by have := (ROW.lt _ q.symm).1; omega)).trans (((XR.drew).below b6).alloc _)
                have hS7 := off_grownR hS gr7 (fun k hk => (ROW.lt k hk).1)
                refine hK.out _ _ hS7 (fun hS => ?_)
                clear hK
                refine wpAnyH_take (i := 10) (v := (.agg #[(.slice oa7 ((B.os.eraseIdx i).length + 1) oc7), .int .i64 (B.nx + 1)])) rfl (by kernel_rfl) (by kernel_rfl) (by kernel_rfl) (fun _ _ _ h => h) (Or.inl ⟨by rfl, fun wx hS => by go_simp⟩) hS ?_
                obtain ⟨W9, hW9, X9, _⟩ := setRow_named X7 #[(.slice oa7 ((B.os.eraseIdx i).length + 1) oc7), .int .i64 (B.nx + 1)]
                refine wpAnyH_ready (rs := [11]) (by kernel_rfl) (by simp) ?_
                refine readyH_rowC 11 rfl (ty := 27) (x := .tmp 10) (y := .tmp 80) rfl rfl rfl R #[(.slice oa7 ((B.os.eraseIdx i).length + 1) oc7), .int .i64 (B.nx + 1)] (by kernel_rfl) (by kernel_rfl) 27 #[.slice none 0 0, .int .i64 0] X7 (infoBk2 _ _) rfl (oneBk2 _ _ _ _) (hS.setRow _) (fun hS => ?_)
                refine wpAnyH_ready (rs := [12]) (by kernel_rfl) (by simp) ?_
                refine AllReadyH.cons rfl (fun K hK => ?_) AllReadyH.nil
                go_simp
                try rw [hW9] at hS
                refine hK.out _ _ hS (fun hS => ?_)
                clear hK
                refine wpAnyH_done (by kernel_rfl) ?_ _
                try rw [hW9]
                go_wp2
                refine bodyPost_ret (v := .tuple #[.agg #[(.slice oa7 ((B.os.eraseIdx i).length + 1) oc7), .int .i64 (B.nx + 1)], .int .i64 0]) (refAmend_results X9 rfl rfl) rfl ?_
                have hb9 : Below w.heap.size w W9 := by
                  have h7 := hS7.below hR2 hbR (by omega)
                  exact below_row h7 hW9 hR2
                refine ⟨(.slice oa7 ((B.os.eraseIdx i).length + 1) oc7), rfl, ?_, hb9, fun k hk => Or.inr (by have := own7.lt k hk; have e9 := row_size hW9; omega)⟩
                exact ods_rowW hW9 (ods_own (by rw [← odL_snocO] at own7; exact len_snoc own7)) own7 (by omega)
              · go_simp
                refine hK.out _ _ (hS.alloc _) (fun hS => ?_)
                clear hK
                refine wpAnyH_ready (rs := [3]) (by kernel_rfl) (by simp) ?_
                refine AllReadyH.cons rfl (fun K hK => ?_) AllReadyH.nil
                go_simp
                refine Calls.mono (HWO.out _ (Ods.below HLR.out (((Below.refl _ _).drew).alloc (Nat.le_refl _) _))) ?_
                rintro e6 w6 ⟨v6, rfl, own6, b6⟩
                refine hK.out _ _ (hS.trans (Off.of_below b6)) (fun hS => ?_)
                clear hK
                refine wpAnyH_ready (rs := [6]) (by kernel_rfl) (by simp) ?_
                refine AllReadyH.cons rfl (fun K hK => ?_) AllReadyH.nil
                have ROW := ownsRow_weakO (base2 := WR.heap.size) own6 (by simp)
                refine step_ifB rfl ?_
                refine wp_append_own _ (.tmp 73) (.tmp 75) 25 rfl WR.heap.size 31 i6 (.agg #[.int .i64 0, .int .i64 0, .int .i64 0, .int .i64 0, .int .i64 0, .bool false]) 6 48 Try.underlying25 hi6 hy0 hy1 hy2 rfl (by decide) v6 (B.os.eraseIdx i).length (odL (B.os.eraseIdx i)) rfl ROW ⟨WR.heap.size, 0, none⟩ 1 1 (oC ((o.amd pr am).at_ B.nx)) rfl rfl (fun jj u hu => keepY b6 (six_new WR.drew ((o.amd pr am).at_ B.nx) _ jj u hu)) (oC_oneO _) (by unfold maxLen; omega) (by omega) (by have := hS.size; omega) ?_
                intro v7 w7 own7 gr7 _
                obtain ⟨oa7, oc7, rfl⟩ := own_form own7
                have X7 : Blk w7 R #[.slice none 0 0, .int .i64 0] 27 := (gr7.block R (by have := hS.size; omega) (fun q => by have := (ROW.lt _ q.symm).1; omega)).trans (((XR.drew).alloc _).below b6)
                have hS7 := off_grownR hS gr7 (fun k hk => (ROW.lt k hk).1)
                refine hK.out _ _ hS7 (fun hS => ?_)
                clear hK
                refine wpAnyH_take (i := 10) (v := (.agg #[(.slice oa7 ((B.os.eraseIdx i).length + 1) oc7), .int .i64 (B.nx + 1)])) rfl (by kernel_rfl) (by kernel_rfl) (by kernel_rfl) (fun _ _ _ h => h) (Or.inl ⟨by rfl, fun wx hS => by go_simp⟩) hS ?_
                obtain ⟨W9, hW9, X9, _⟩ := setRow_named X7 #[(.slice oa7 ((B.os.eraseIdx i).length + 1) oc7), .int .i64 (B.nx + 1)]
                refine wpAnyH_ready (rs := [11]) (by kernel_rfl) (by simp) ?_
                refine readyH_rowC 11 rfl (ty := 27) (x := .tmp 10) (y := .tmp 80) rfl rfl rfl R #[(.slice oa7 ((B.os.eraseIdx i).length + 1) oc7), .int .i64 (B.nx + 1)] (by kernel_rfl) (by kernel_rfl) 27 #[.slice none 0 0, .int .i64 0] X7 (infoBk2 _ _) rfl (oneBk2 _ _ _ _) (hS.setRow _) (fun hS => ?_)
                refine wpAnyH_ready (rs := [12]) (by kernel_rfl) (by simp) ?_
                refine AllReadyH.cons rfl (fun K hK => ?_) AllReadyH.nil
                go_simp
                try rw [hW9] at hS
                refine hK.out _ _ hS (fun hS => ?_)
                clear hK
                refine wpAnyH_done (by kernel_rfl) ?_ _
                try rw [hW9]
                go_wp2
                refine bodyPost_ret (v := .tuple #[.agg #[(.slice oa7 ((B.os.eraseIdx i).length + 1) oc7), .int .i64 (B.nx + 1)], .int .i64 0]) (refAmend_results X9 rfl rfl) rfl ?_
                have hb9 : Below w.heap.size w W9 := by
                  have h7 := hS7.below hR2 hbR (by omega)
                  exact below_row h7 hW9 hR2
                refine ⟨(.slice oa7 ((B.os.eraseIdx i).length + 1) oc7), rfl, ?_, hb9, fun k hk => Or.inr (by have := own7.lt k hk; have e9 := row_size hW9; omega)⟩
                exact ods_rowW hW9 (ods_own (by rw [← odL_snocO] at own7; exact len_snoc own7)) own7 (by omega)
          · have HR2 : Hid (r = (0, ⟨B.nx, B.os.set i (o.amd pr am)⟩)) := by
              have := HRR.out
              unfold Bo.amd at this
              have hs := HST.out
              simp only [Bool.and_eq_true, beq_iff_eq, decide_eq_true_eq] at hs
              rw [if_neg (by rw [hmb]; decide), if_pos ⟨hs.1.symm, hs.2⟩] at this
              exact this.symm
            obtain rfl := HR2.out
            have HWO : Hid (∀ wx, Ods wx (.slice (some ⟨g, off, none⟩) B.os.length lc) B.os → Calls Try.prog 26 #[.slice (some ⟨g, off, none⟩) B.os.length lc, .int .i64 (-1)] wx fun e w' => ∃ v', e = .returned v' ∧ w'.ownsRow wx.heap.size 31 6 v' B.os.length (odL B.os) ∧ Below wx.heap.size wx w') := fun wx hx => by
              have := without_calls (.slice (some ⟨g, off, none⟩) B.os.length lc) B.os (-1) wx hx (by omega)
              rw [wo_neg B.os (show (-1 : Int) < 0 by decide)] at this
              exact this
            clear hmb
            go_wp2_with fail
            refine Calls.mono HRT.out ?_
            rintro e w8 ⟨rfl, g8⟩
            have b8 := g8.below
            have zz8 := b8.size
            have y0 : w8.cell? ⟨w.heap.size, 0, none⟩ = some _ := keepY b8 (Blk.cell HXB7.out rfl)
            have HX8 : Hid _ := Blk.below HXR7.out b8
            have HXB8 : Hid _ := Blk.below HXB7.out b8
            have HXO8 : Hid _ := Blk.below HX7.out b8
            have HB8 : Hid _ := Below.trans HB7.out (b8.mono (by omega))
            clear x2 x3 f2 f3 x3' z0 z1 z2 z3 z4 z5 b8 g8 hW6 hW7
            go_wp2_with fail
            refine Calls.mono (HWO.out _ (Ods.below HL.out HB8.out)) ?_
            rintro e v0 ⟨v9, rfl, own0, b9⟩
            obtain ⟨g9, c9, rfl⟩ : ∃ g9 c9, v9 = .slice (some ⟨g9, 0, none⟩) B.os.length c9 := by
              rcases own0.2 with ⟨_, h0⟩ | ⟨g9, c9, cur, e9, _⟩
              · omega
              · exact ⟨g9, c9, e9⟩
            have hg9 := (own0.lt g9 rfl)
            have zz9 := b9.size
            have x0 : v0.cell? ⟨q, 0, none⟩ = some (.int .i64 o.id) := keepY b9 (Blk.cell HXO8.out rfl)
            have x1 : v0.cell? ⟨q, 1, none⟩ = some (.int .i64 o.own) := keepY b9 (Blk.cell HXO8.out rfl)
            have x2 : v0.cell? ⟨q, 2, none⟩ = some (.int .i64 pr) := keepY b9 (Blk.cell HXO8.out rfl)
            have x3 : v0.cell? ⟨q, 3, none⟩ = some (.int .i64 am) := keepY b9 (Blk.cell HXO8.out rfl)
            have x4 : v0.cell? ⟨q, 4, none⟩ = some (.int .i64 o.pl) := keepY b9 (Blk.cell HXO8.out rfl)
            have x5 : v0.cell? ⟨q, 5, none⟩ = some (.bool o.by) := keepY b9 (Blk.cell HXO8.out rfl)
            have hls := odL_len B.os
            have fz0 : v0.frozen? ⟨g9, i * 6, none⟩ = false := own0.frozenAt _
            obtain ⟨ol0, cc0⟩ : ∃ u, v0.cell? ⟨g9, i * 6, none⟩ = some u := ⟨_, (own0.cellAt _ (by omega)).trans (List.getElem?_eq_getElem (by (try simp only [List.length_set]); omega))⟩
            obtain ⟨v1, hV1, own1⟩ : ∃ V, v0.setCell ⟨g9, i * 6, none⟩ (.int .i64 o.id) = V ∧ V.ownsRow w8.heap.size 31 6 (.slice (some ⟨g9, 0, none⟩) B.os.length c9) B.os.length _ := ⟨_, rfl, own_setAt own0 (by omega)⟩
            have O1_ : Off g9 v0 v1 := by rw [← hV1]; exact Off.setCell (Off.refl g9 v0) (p := ⟨g9, i * 6, none⟩) rfl _
            have fz1 : v1.frozen? ⟨g9, i * 6 + 1, none⟩ = false := own1.frozenAt _
            obtain ⟨ol1, cc1⟩ : ∃ u, v1.cell? ⟨g9, i * 6 + 1, none⟩ = some u := ⟨_, (own1.cellAt _ (by omega)).trans (List.getElem?_eq_getElem (by (try simp only [List.length_set]); omega))⟩
            obtain ⟨v2, hV2, own2⟩ : ∃ V, v1.setCell ⟨g9, i * 6 + 1, none⟩ (.int .i64 o.own) = V ∧ V.ownsRow w8.heap.size 31 6 (.slice (some ⟨g9, 0, none⟩) B.os.length c9) B.os.length _ := ⟨_, rfl, own_setAt own1 (by omega)⟩
            have O2_ : Off g9 v0 v2 := by rw [← hV2]; exact Off.setCell O1_ (p := ⟨g9, i * 6 + 1, none⟩) rfl _
            have fz2 : v2.frozen? ⟨g9, i * 6 + 2, none⟩ = false := own2.frozenAt _
            obtain ⟨ol2, cc2⟩ : ∃ u, v2.cell? ⟨g9, i * 6 + 2, none⟩ = some u := ⟨_, (own2.cellAt _ (by omega)).trans (List.getElem?_eq_getElem (by (try simp only [List.length_set]); omega))⟩
            obtain ⟨v3, hV3, own3⟩ : ∃ V, v2.setCell ⟨g9, i * 6 + 2, none⟩ (.int .i64 pr) = V ∧ V.ownsRow w8.heap.size 31 6 (.slice (some ⟨g9, 0, none⟩) B.os.length c9) B.os.length _ := ⟨_, rfl, own_setAt own2 (by omega)⟩
            have O3_ : Off g9 v0 v3 := by rw [← hV3]; exact Off.setCell O2_ (p := ⟨g9, i * 6 + 2, none⟩) rfl _
            have fz3 : v3.frozen? ⟨g9, i * 6 + 3, none⟩ = false := own3.frozenAt _
            obtain ⟨ol3, cc3⟩ : ∃ u, v3.cell? ⟨g9, i * 6 + 3, none⟩ = some u := ⟨_, (own3.cellAt _ (by omega)).trans (List.getElem?_eq_getElem (by (try simp only [List.length_set]); omega))⟩
            obtain ⟨v4, hV4, own4⟩ : ∃ V, v3.setCell ⟨g9, i * 6 + 3, none⟩ (.int .i64 am) = V ∧ V.ownsRow w8.heap.size 31 6 (.slice (some ⟨g9, 0, none⟩) B.os.length c9) B.os.length _ := ⟨_, rfl, own_setAt own3 (by omega)⟩
            have O4_ : Off g9 v0 v4 := by rw [← hV4]; exact Off.setCell O3_ (p := ⟨g9, i * 6 + 3, none⟩) rfl _
            have fz4 : v4.frozen? ⟨g9, i * 6 + 4, none⟩ = false := own4.frozenAt _
            obtain ⟨ol4, cc4⟩ : ∃ u, v4.cell? ⟨g9, i * 6 + 4, none⟩ = some u := ⟨_, (own4.cellAt _ (by omega)).trans (List.getElem?_eq_getElem (by (try simp only [List.length_set]); omega))⟩
            obtain ⟨v5, hV5, own5⟩ : ∃ V, v4.setCell ⟨g9, i * 6 + 4, none⟩ (.int .i64 o.pl) = V ∧ V.ownsRow w8.heap.size 31 6 (.slice (some ⟨g9, 0, none⟩) B.os.length c9) B.os.length _ := ⟨_, rfl, own_setAt own4 (by omega)⟩
            have O5_ : Off g9 v0 v5 := by rw [← hV5]; exact Off.setCell O4_ (p := ⟨g9, i * 6 + 4, none⟩) rfl _
            have fz5 : v5.frozen? ⟨g9, i * 6 + 5, none⟩ = false := own5.frozenAt _
            obtain ⟨ol5, cc5⟩ : ∃ u, v5.cell? ⟨g9, i * 6 + 5, none⟩ = some u := ⟨_, (own5.cellAt _ (by omega)).trans (List.getElem?_eq_getElem (by (try simp only [List.length_set]); omega))⟩
            obtain ⟨V6, hV6, own6⟩ : ∃ V, v5.setCell ⟨g9, i * 6 + 5, none⟩ (.bool o.by) = V ∧ V.ownsRow w8.heap.size 31 6 (.slice (some ⟨g9, 0, none⟩) B.os.length c9) B.os.length _ := ⟨_, rfl, own_setAt own5 (by omega)⟩
            have O6_ : Off g9 v0 V6 := by rw [← hV6]; exact Off.setCell O5_ (p := ⟨g9, i * 6 + 5, none⟩) rfl _
            have OV := O6_
            have hfin : V6.ownsRow w8.heap.size 31 6 (.slice (some ⟨g9, 0, none⟩) B.os.length c9) B.os.length (odL (B.os.set i (o.amd pr am))) := by
              have := odL_set6 (o.amd pr am) HO2.out
              rw [← this]; exact own6
            have hn8 : w.heap.size + 2 ≤ w8.heap.size := by omega
            have XB9 : Blk V6 w.heap.size _ 27 := Blk.off (Blk.below HXB8.out b9) OV (by omega)
            have XR9 : Blk V6 (w.heap.size + 1) _ 27 := Blk.off (Blk.below HX8.out b9) OV (by omega)
            have hb9 : Below w.heap.size w V6 := OV.below (by omega) (Below.trans HB8.out (b9.mono (by omega))) (by omega)
            have y1 : V6.cell? ⟨w.heap.size, 1, none⟩ = some (.int .i64 B.nx) := XB9.cell rfl
            obtain ⟨W9, hW9, X9, _⟩ := setRow_named XR9 #[.slice (some ⟨g9, 0, none⟩) B.os.length c9, .int .i64 B.nx]
            have hls2 : (B.os.set i (o.amd pr am)).length = B.os.length := List.length_set ..
            have HFIN : Hid _ := hfin
            clear hfin hls own0 own1 own2 own3 own4 own5 own6 XB9 b9 HX8 HXB8 HXO8 HX7 HXB7 HXR7 HB7 HRT HWO y0
            go_wp2_with ((with_reducible refine st_row (ty := 27) XR9 (infoBk2 _ _) (sameBk2 _ _ _ _) (oneBk2 _ _ _ _) hW9 ?_ ?_ ?_); kernel_rfl; kernel_rfl)
            refine bodyPost_ret (v := .tuple #[.agg #[.slice (some ⟨g9, 0, none⟩) B.os.length c9, .int .i64 B.nx], .int .i64 0]) (refAmend_results X9 rfl rfl) rfl ?_
            refine ⟨_, rfl, ?_, below_row hb9 hW9 (by omega), fun k hk => Or.inr (by have := World.ownsRow.lt HFIN.out k hk; have e9 := row_size hW9; omega)⟩
            exact ods_rowW hW9 (ods_own (base := w8.heap.size) (by show V6.ownsRow w8.heap.size 31 6 (.slice (some ⟨g9, 0, none⟩) B.os.length c9) (B.os.set i (o.amd pr am)).length (odL (B.os.set i (o.amd pr am))); rw [hls2]; exact HFIN.out)) HFIN.out (by omega)
    · rw [if_neg hy] at hr
      have e1 : ownR B.os x y = (0, 80) := by unfold ownR; rw [if_neg (by rw [f1]; omega), gtB_some f1 f2 f3, if_neg hy]
      rw [e1] at HOW
      subst hr
      clear f1 f2 f3 f4 e1 hy
      go_enter Try.func9, Try.ntmps9
      go_wp2_with fail
      refine Calls.mono HOW.out ?_
      rintro e w4 ⟨rfl, b4⟩
      have y0' := keepY b4 y0
      have y1' := keepY b4 y1
      have hzz := HZ.out
      clear y0 y1
      have XX : Blk _ (w.heap.size + 1) #[.slice none 0 0, .int .i64 0] 27 := Blk.below HX3.out b4
      have ON9 : (#[lv, .int .i64 B.nx] : Array Value).all (·.oneCell') = true := oneBkO (w := w) (l := B.os) HL.out _
      obtain ⟨W9, hW9, X9, _⟩ := setRow_named XX #[lv, .int .i64 B.nx]
      go_wp2_with ((with_reducible refine st_row (ty := 27) XX (infoBk2 _ _) (sameBk2 _ _ _ _) ON9 hW9 ?_ ?_ ?_); kernel_rfl; kernel_rfl)
      refine bodyPost_ret (v := .tuple #[.agg #[lv, .int .i64 B.nx], .int .i64 80]) (refAmend_results X9 rfl rfl) rfl ?_
      have hb9 := below_row (Below.trans HB.out (b4.mono (by omega))) hW9 (by omega)
      exact ⟨lv, rfl, Ods.below HL.out hb9, hb9, fun k hk => Or.inl hk⟩
end Go.Proofs.Ytglbfeccdibmiaa
