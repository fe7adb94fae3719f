/- The document's Put and Cancel. -/
import Derived.Test.YtglbfeccdibmiaaCdA
import Derived.Test.YtglbfeccdibmiaaCaRi
import Derived.Test.YtglbfeccdibmiaaCaZ
namespace Go.Proofs.Ytglbfeccdibmiaa
open Go.RowKit
set_option linter.unusedSimpArgs false
set_option linter.unusedVariables false
theorem keepO {r : Nat} {W wx : World} (h : Off r W wx) {a : Addr} {u : Value} (c : W.cell? a = some u) (hn : a.block ≠ r) : wx.cell? a = some u := (h.cell (World.block_lt_of_cell? W _ c) hn).trans c
theorem off_grownR {r : Nat} {W w w' : World} {row : Option Nat} (h : Off r W w) (g : w.grownBy w' row) (hr : ∀ k, row = some k → W.heap.size ≤ k) : Off r W w' :=
  ⟨g.os.trans h.os, g.tape.trans h.tape, g.output.trans h.output, Nat.le_trans h.size g.size, fun k hk hb => (g.block k (Nat.lt_of_lt_of_le hk h.size) (fun e => by have := hr k e.symm; omega)).trans (h.block k hk hb)⟩
theorem oneBkO {w : World} {v : Value} {l : List Od} (h : Ods w v l) (x : Int) : (#[v, .int .i64 x] : Array Value).all (·.oneCell') = true := by
  obtain ⟨q, c, rfl, _⟩ := h
  simp [Value.oneCell']
theorem infoBk2L (u v : Value) : (Try.prog.info? 27).map (·.size) = some (#[u, v] : Array Value).size := by kernel_rfl
theorem row_size {w W : World} {r : Nat} {cs : Array Value} (h : w.setRow r cs = W) : W.heap.size = w.heap.size := by rw [← h]; simp
theorem wo_neg (l : List Od) {x : Int} (h : x < 0) : wo l x = l := by unfold wo; rw [if_neg (by omega)]
theorem wo_nat (l : List Od) (i : Nat) : wo l (i : Int) = l.eraseIdx i := by unfold wo; rw [if_pos (by omega), Int.toNat_natCast]
theorem wo_len (l : List Od) (x : Int) : (wo l x).length ≤ l.length := by
  unfold wo
  split
  · exact List.length_eraseIdx_le ..
  · exact Nat.le_refl _
theorem len_snoc {w : World} {b : Nat} {v : Value} {l : List Od} {o : Od} (h : w.ownsRow b 31 6 v (l.length + 1) (odL (l ++ [o]))) : w.ownsRow b 31 6 v (l ++ [o]).length (odL (l ++ [o])) := by
  rw [List.length_append]; exact h
theorem ods_rowW {w W : World} {r b z n : Nat} {t : TypeId} {v : Value} {cs : Array Value} {xs : List Value} (hW : w.setRow r cs = W) {l : List Od} (h : Ods w v l) (hv : w.ownsRow b t z v n xs) (hr : r < b) : Ods W v l := by
  obtain ⟨pp, cap, rfl, hc⟩ := h
  refine ⟨pp, cap, rfl, ?_⟩
  rcases hc with h1 | ⟨g, off, rfl, hx⟩
  · exact Or.inl h1
  · refine Or.inr ⟨g, off, rfl, fun k x i u h2 h3 => rowK hW (hx k x i u h2 h3) ?_⟩
    have := (hv.lt g rfl).1
    show g ≠ r
    omega
/-- The document's book behind a call: its orders; they lie where they lay, or are new. -/
def RefP (lv : Value) (w : World) (r : Int × Bo) (e : Ending) (w' : World) : Prop := ∃ lv', e = .returned (.tuple #[.agg #[lv', .int .i64 r.2.nx], .int .i64 r.1]) ∧ Ods w' lv' r.2.os ∧ Below w.heap.size w w' ∧ ∀ k, lv'.ownBlock = some k → lv.ownBlock = some k ∨ (w.heap.size ≤ k ∧ k < w'.heap.size)
theorem refPut_results {w' : World} {c0 c1 v : Value} {r : Nat} (X : Blk w' r #[c0, c1] 27) {t : Array Value} (h1 : t.getD 4 undef = .pointer (some ⟨r, 0, none⟩)) (h2 : t.getD 5 undef = v) :
    (results Try.f16 t).run Try.prog w' = .ok (.tuple #[.agg #[c0, c1], v]) w' := by
  have a0 := X.cell (o := 0) rfl
  have a1 := X.cell (o := 1) rfl
  simp only [Array.getD_eq_getD_getElem?] at h1 h2
  simp [results, Try.results16, go_sem, h1, h2, a0, a1]
theorem refCancel_results {w' : World} {c0 c1 v : Value} {r : Nat} (X : Blk w' r #[c0, c1] 27) {t : Array Value} (h1 : t.getD 6 undef = .pointer (some ⟨r, 0, none⟩)) (h2 : t.getD 7 undef = v) :
    (results Try.f11 t).run Try.prog w' = .ok (.tuple #[.agg #[c0, c1], v]) w' := by
  have a0 := X.cell (o := 0) rfl
  have a1 := X.cell (o := 1) rfl
  simp only [Array.getD_eq_getD_getElem?] at h1 h2
  simp [results, Try.results11, go_sem, h1, h2, a0, a1]
set_option maxHeartbeats 8000000 in
set_option maxRecDepth 100000 in
theorem refPut_calls (lv : Value) (o : Od) (B : Bo) (hI : BInv B) (w : World) (h : Ods w lv B.os) (r : Int × Bo) (hr : B.put o = r) :
    Calls Try.prog 16 #[.agg #[lv, .int .i64 B.nx], .agg #[.int .i64 o.id, .int .i64 o.own, .int .i64 o.pr, .int .i64 o.am, .int .i64 o.pl, .bool o.by]] w (RefP lv w r) := by
  obtain ⟨i6, hi6, hy0, hy1, hy2⟩ := info_parts infoOd6
  have hlen := hI.len
  have hnx1 := hI.nx1
  have hnx2 := hI.nx2
  obtain ⟨W1, hW1, X1, B1, Z1⟩ : ∃ W1, w.alloc (.cells #[lv, .int .i64 B.nx] 27) = W1 ∧ Blk W1 w.heap.size #[lv, .int .i64 B.nx] 27 ∧ Below w.heap.size w W1 ∧ W1.heap.size = w.heap.size + 1 := ⟨_, rfl, blk_new _ _ _ _ rfl, by go_grown, by simp⟩
  obtain ⟨W2, hW2, X2, B2, Z2⟩ : ∃ W2, W1.alloc (.cells #[.int .i64 o.id, .int .i64 o.own, .int .i64 o.pr, .int .i64 o.am, .int .i64 o.pl, .bool o.by] 31) = W2 ∧ Blk W2 (w.heap.size + 1) #[.int .i64 o.id, .int .i64 o.own, .int .i64 o.pr, .int .i64 o.am, .int .i64 o.pl, .bool o.by] 31 ∧ Below W1.heap.size W1 W2 ∧ W2.heap.size = w.heap.size + 2 := ⟨_, rfl, blk_new _ _ _ _ (by omega), by go_grown, by simp; omega⟩
  obtain ⟨W3, hW3, X3, B3, Z3⟩ : ∃ W3, W2.alloc (.cells #[.slice none 0 0, .int .i64 0] 27) = W3 ∧ Blk W3 (w.heap.size + 2) #[.slice none 0 0, .int .i64 0] 27 ∧ Below W2.heap.size W2 W3 ∧ W3.heap.size = w.heap.size + 3 := ⟨_, rfl, blk_new _ _ _ _ (by omega), by go_grown, by simp; omega⟩
  have Y2 : Blk W3 (w.heap.size + 1) #[.int .i64 o.id, .int .i64 o.own, .int .i64 o.pr, .int .i64 o.am, .int .i64 o.pl, .bool o.by] 31 := X2.below B3
  have Y1 : Blk W3 w.heap.size #[lv, .int .i64 B.nx] 27 := (X1.below B2).below B3
  have B13 : Below w.heap.size w W3 := (B1.trans (B2.mono (by omega))).trans (B3.mono (by omega))
  have HX3 : Hid _ := X3
  have HY1 : Hid _ := Y1
  have HY2 : Hid _ := Y2
  have HB : Hid _ := B13
  have HZ : Hid (W3.heap.size = w.heap.size + 3) := Z3
  have HL : Hid _ := h
  have y0 : W3.cell? ⟨w.heap.size, 0, none⟩ = some lv := Y1.cell rfl
  have y1 : W3.cell? ⟨w.heap.size, 1, none⟩ = some (.int .i64 B.nx) := Y1.cell rfl
  have x0 : W3.cell? ⟨w.heap.size + 1, 0, none⟩ = some (.int .i64 o.id) := Y2.cell rfl
  have x1 : W3.cell? ⟨w.heap.size + 1, 1, none⟩ = some (.int .i64 o.own) := Y2.cell rfl
  have x2 : W3.cell? ⟨w.heap.size + 1, 2, none⟩ = some (.int .i64 o.pr) := Y2.cell rfl
  have x3 : W3.cell? ⟨w.heap.size + 1, 3, none⟩ = some (.int .i64 o.am) := Y2.cell rfl
  have x4 : W3.cell? ⟨w.heap.size + 1, 4, none⟩ = some (.int .i64 o.pl) := Y2.cell rfl
  have x5 : W3.cell? ⟨w.heap.size + 1, 5, none⟩ = some (.bool o.by) := Y2.cell rfl
  have HRT : Hid _ := right_calls o W3
  clear X1 X2 X3 Y1 Y2 B1 B2 B3 B13 Z3 h hI
  unfold Bo.put at hr
  cases hmb : mayB o
  · rw [if_pos (Or.inl hmb)] at hr
    subst hr
    rw [hmb] at HRT
    clear hmb
    go_enter Try.func16, Try.ntmps16
    go_wp2_with fail
    refine Calls.mono HRT.out ?_
    rintro e w4 ⟨rfl, g4⟩
    have b4 := g4.below
    have y0' := keepY b4 y0
    have y1' := keepY b4 y1
    have hzz := HZ.out
    have XX : Blk _ (w.heap.size + 2) #[.slice none 0 0, .int .i64 0] 27 := Blk.below HX3.out b4
    have ON9 : (#[lv, .int .i64 B.nx] : Array Value).all (·.oneCell') = true := oneBkO (w := w) (l := B.os) HL.out _
    obtain ⟨W9, hW9, X9, _⟩ := setRow_named XX #[lv, .int .i64 B.nx]
    go_wp2_with ((with_reducible refine st_row (ty := 27) XX (infoBk2 _ _) (sameBk2 _ _ _ _) ON9 hW9 ?_ ?_ ?_); kernel_rfl; kernel_rfl)
    refine bodyPost_ret (v := .tuple #[.agg #[lv, .int .i64 B.nx], .int .i64 1]) (refPut_results X9 rfl rfl) rfl ?_
    have hb9 := below_row (Below.trans HB.out (b4.mono (by omega))) hW9 (by omega)
    exact ⟨lv, rfl, Ods.below HL.out hb9, hb9, fun k hk => Or.inl hk⟩
  · rw [hmb] at HRT
    by_cases hp : o.pl = 0
    · have dp : (o.pl != 0) = false := by simp [hp]
      have HP : Hid _ := hp
      rw [if_neg (by rw [hmb]; simp [hp])] at hr
      have HAT : Hid (∀ wx, Ods wx lv B.os → Calls Try.prog 19 #[.agg #[lv, .int .i64 B.nx], .int .i64 o.id] wx fun e w' => e = .returned (.int .i64 (fnd B.os o.id)) ∧ Below wx.heap.size wx w') := fun wx hx => refAt_calls lv B.os B.nx o.id wx hx (by omega)
      have HRR : Hid _ := hr
      clear hmb hp hr
      obtain ⟨f, HF⟩ : ∃ f, Hid (fnd B.os o.id = f) := ⟨_, rfl⟩
      rw [HF.out] at HAT
      by_cases hf : 0 ≤ f
      · have df : decide (0 ≤ f) = true := decide_eq_true hf
        have HR2 : Hid (r = (63, B)) := by have := HRR.out; rw [if_pos (by rw [HF.out]; exact hf)] at this; exact this.symm
        rw [HR2.out]
        clear hf
        go_enter Try.func16, Try.ntmps16
        go_wp2_with fail
        refine Calls.mono HRT.out ?_
        rintro e w4 ⟨rfl, g4⟩
        have b4 := g4.below
        have y0' := keepY b4 y0
        have y1' := keepY b4 y1
        have x0' := keepY b4 x0
        have x4' := keepY b4 x4
        have hzz := HZ.out
        have HB4 : Hid _ := Below.trans HB.out (b4.mono (by omega))
        have HX4 : Hid _ := Blk.below HX3.out b4
        have z4 := b4.size
        clear b4 g4 y0 y1 x0 x1 x2 x3 x4 x5
        go_wp2_with fail
        refine Calls.mono (HAT.out _ (Ods.below HL.out HB4.out)) ?_
        rintro e w5 ⟨rfl, b5⟩
        have y0'' := keepY b5 y0'
        have y1'' := keepY b5 y1'
        clear y0' y1'
        have XX : Blk _ (w.heap.size + 2) #[.slice none 0 0, .int .i64 0] 27 := Blk.below HX4.out b5
        have ON9 : (#[lv, .int .i64 B.nx] : Array Value).all (·.oneCell') = true := oneBkO (w := w) (l := B.os) HL.out _
        obtain ⟨W9, hW9, X9, _⟩ := setRow_named XX #[lv, .int .i64 B.nx]
        go_wp2_with ((with_reducible refine st_row (ty := 27) XX (infoBk2 _ _) (sameBk2 _ _ _ _) ON9 hW9 ?_ ?_ ?_); kernel_rfl; kernel_rfl)
        refine bodyPost_ret (v := .tuple #[.agg #[lv, .int .i64 B.nx], .int .i64 63]) (refPut_results X9 rfl rfl) rfl ?_
        have hb9 := below_row (Below.trans HB4.out (b5.mono (by omega))) hW9 (by omega)
        exact ⟨lv, rfl, Ods.below HL.out hb9, hb9, fun k hk => Or.inl hk⟩
      · have df : decide (0 ≤ f) = false := decide_eq_false hf
        have HR1 : Hid ((if B.os.length = 64 ∨ B.nx = 9007199254740992 then ((2 : Int), B) else (0, B.stand o)) = r) := by have := HRR.out; rw [if_neg (by rw [HF.out]; exact hf)] at this; exact this
        obtain ⟨la, lc, rfl, _⟩ := id HL.out
        clear hf
        by_cases h64 : B.os.length = 64 ∨ B.nx = 9007199254740992
        · have HR2 : Hid (r = (2, B)) := by have := HR1.out; rw [if_pos h64] at this; exact this.symm
          rw [HR2.out]
          go_enter Try.func16, Try.ntmps16
          go_wp2_with fail
          refine Calls.mono HRT.out ?_
          rintro e w4 ⟨rfl, g4⟩
          have b4 := g4.below
          have y0' := keepY b4 y0
          have y1' := keepY b4 y1
          have x0' := keepY b4 x0
          have x4' := keepY b4 x4
          have hzz := HZ.out
          have HB4 : Hid _ := Below.trans HB.out (b4.mono (by omega))
          have HX4 : Hid _ := Blk.below HX3.out b4
          have z4 := b4.size
          clear b4 g4 y0 y1 x0 x1 x2 x3 x4 x5
          go_wp2_with fail
          refine Calls.mono (HAT.out _ (Ods.below HL.out HB4.out)) ?_
          rintro e w5 ⟨rfl, b5⟩
          have y0'' := keepY b5 y0'
          have y1'' := keepY b5 y1'
          have X5 := Blk.below HX4.out b5
          have hb5 := Below.trans HB4.out (b5.mono (by omega))
          have HX5 : Hid _ := X5
          have HB5 : Hid _ := hb5
          clear y0' y1' X5 hb5 b5 x0' x4' HX4 HB4 HAT HRT
          by_cases h6 : B.os.length = 64
          · have d6 : decide ((64 : Int) ≤ (B.os.length : Int)) = true := decide_eq_true (by omega)
            have H6 : Hid _ := h6
            clear h6 h64 hlen
            have XX : Blk _ (w.heap.size + 2) #[.slice none 0 0, .int .i64 0] 27 := HX5.out
            have ON9 : (#[(.slice la B.os.length lc), .int .i64 B.nx] : Array Value).all (·.oneCell') = true := oneBkO (w := w) (l := B.os) HL.out _
            obtain ⟨W9, hW9, X9, _⟩ := setRow_named XX #[(.slice la B.os.length lc), .int .i64 B.nx]
            go_wp2_with ((with_reducible refine st_row (ty := 27) XX (infoBk2 _ _) (sameBk2 _ _ _ _) ON9 hW9 ?_ ?_ ?_); kernel_rfl; kernel_rfl)
            refine bodyPost_ret (v := .tuple #[.agg #[(.slice la B.os.length lc), .int .i64 B.nx], .int .i64 2]) (refPut_results X9 rfl rfl) rfl ?_
            have hb9 := below_row (HB5.out) hW9 (by omega)
            exact ⟨_, rfl, Ods.below HL.out hb9, hb9, fun k hk => Or.inl hk⟩
          · have d6 : decide ((64 : Int) ≤ (B.os.length : Int)) = false := decide_eq_false (by omega)
            have d7 : decide ((9007199254740992 : Int) ≤ B.nx) = true := decide_eq_true (by rcases h64 with q | q <;> omega)
            clear h6 h64
            have XX : Blk _ (w.heap.size + 2) #[.slice none 0 0, .int .i64 0] 27 := HX5.out
            have ON9 : (#[(.slice la B.os.length lc), .int .i64 B.nx] : Array Value).all (·.oneCell') = true := oneBkO (w := w) (l := B.os) HL.out _
            obtain ⟨W9, hW9, X9, _⟩ := setRow_named XX #[(.slice la B.os.length lc), .int .i64 B.nx]
            go_wp2_with ((with_reducible refine st_row (ty := 27) XX (infoBk2 _ _) (sameBk2 _ _ _ _) ON9 hW9 ?_ ?_ ?_); kernel_rfl; kernel_rfl)
            refine bodyPost_ret (v := .tuple #[.agg #[(.slice la B.os.length lc), .int .i64 B.nx], .int .i64 2]) (refPut_results X9 rfl rfl) rfl ?_
            have hb9 := below_row (HB5.out) hW9 (by omega)
            exact ⟨_, rfl, Ods.below HL.out hb9, hb9, fun k hk => Or.inl hk⟩
        · have HR2 : Hid (r = (0, B.stand o)) := by have := HR1.out; rw [if_neg h64] at this; exact this.symm
          rw [HR2.out]
          have d6 : decide ((64 : Int) ≤ (B.os.length : Int)) = false := decide_eq_false (by omega)
          have d7 : decide ((9007199254740992 : Int) ≤ B.nx) = false := decide_eq_false (by omega)
          have hwn : IntKind.i64.wrap (B.nx + 1) = B.nx + 1 := by rw [IntKind.wrap_i64]; omega
          have HWO : Hid (∀ wx, Ods wx (.slice la B.os.length lc) B.os → Calls Try.prog 26 #[.slice la B.os.length lc, .int .i64 (-1)] wx fun e w' => ∃ v', e = .returned v' ∧ w'.ownsRow wx.heap.size 31 6 v' B.os.length (odL B.os) ∧ Below wx.heap.size wx w') := fun wx hx => by
            have := without_calls (.slice la B.os.length lc) B.os (-1) wx hx (by omega)
            rw [wo_neg B.os (show (-1 : Int) < 0 by decide)] at this
            exact this
          go_enter Try.func16, Try.ntmps16
          go_wp2_with fail
          refine Calls.mono HRT.out ?_
          rintro e w4 ⟨rfl, g4⟩
          have b4 := g4.below
          have y0' := keepY b4 y0
          have y1' := keepY b4 y1
          have x0' := keepY b4 x0
          have x4' := keepY b4 x4
          have hzz := HZ.out
          have HB4 : Hid _ := Below.trans HB.out (b4.mono (by omega))
          have HX4 : Hid _ := Blk.below HX3.out b4
          have HY4 : Hid _ := Blk.below HY1.out b4
          have HV4 : Hid _ := Blk.below HY2.out b4
          have z4 := b4.size
          clear b4 g4 y0 y1 x0 x1 x2 x3 x4 x5
          go_wp2_with fail
          refine Calls.mono (HAT.out _ (Ods.below HL.out HB4.out)) ?_
          rintro e w5 ⟨rfl, b5⟩
          have y0'' := keepY b5 y0'
          have y1'' := keepY b5 y1'
          have XB : Blk w5 w.heap.size #[.slice la B.os.length lc, .int .i64 B.nx] 27 := Blk.below HY4.out b5
          have XO : Blk w5 (w.heap.size + 1) #[.int .i64 o.id, .int .i64 o.own, .int .i64 o.pr, .int .i64 o.am, .int .i64 o.pl, .bool o.by] 31 := Blk.below HV4.out b5
          have X5 : Blk w5 (w.heap.size + 2) #[.slice none 0 0, .int .i64 0] 27 := Blk.below HX4.out b5
          have z5 := b5.size
          have hb5 : Below w.heap.size w w5 := Below.trans HB4.out (b5.mono (by omega))
          have f4 : w5.frozen? ⟨w.heap.size + 1, 4, none⟩ = false := XO.frozen
          have x4'' : w5.cell? ⟨w.heap.size + 1, 4, none⟩ = some (.int .i64 o.pl) := XO.cell rfl
          obtain ⟨WR, hWR, XO6, hother⟩ : ∃ WR, w5.setCell ⟨w.heap.size + 1, 4, none⟩ (.int .i64 B.nx) = WR ∧ Blk WR (w.heap.size + 1) #[.int .i64 o.id, .int .i64 o.own, .int .i64 o.pr, .int .i64 o.am, .int .i64 B.nx, .bool o.by] 31 ∧ Off (w.heap.size + 1) w5 WR := ⟨_, rfl, XO.set 4 _, Off.setCell (Off.refl (w.heap.size + 1) w5) (p := ⟨w.heap.size + 1, 4, none⟩) rfl _⟩
          have XB6 := XB.off hother (by omega)
          have XR := X5.off hother (by omega)
          have hbR : Below w.heap.size w WR := hother.below (by omega) hb5 (by omega)
          have HLR : Hid _ := Ods.below HL.out hbR
          have hzR := hother.size
          obtain ⟨R, hR⟩ : ∃ R, w.heap.size + 2 = R := ⟨_, rfl⟩
          have hRlt : R < WR.heap.size := by omega
          have hR0 : w.heap.size ≠ R := by omega
          have hR1 : w.heap.size + 1 ≠ R := by omega
          have hR2 : w.heap.size ≤ R := by omega
          rw [hR] at XR
          have HC0 : Hid (∀ wx, Off R WR wx → wx.cell? ⟨w.heap.size, 0, none⟩ = some (.slice la B.os.length lc)) := fun wx hx => keepO hx (XB6.cell rfl) hR0
          have HC1 : Hid (∀ wx, Off R WR wx → wx.cell? ⟨w.heap.size, 1, none⟩ = some (.int .i64 B.nx)) := fun wx hx => keepO hx (XB6.cell rfl) hR0
          have HO0 : Hid (∀ wx, Off R WR wx → wx.cell? ⟨w.heap.size + 1, 0, none⟩ = some (.int .i64 o.id)) := fun wx hx => keepO hx (XO6.cell rfl) hR1
          have HO1 : Hid (∀ wx, Off R WR wx → wx.cell? ⟨w.heap.size + 1, 1, none⟩ = some (.int .i64 o.own)) := fun wx hx => keepO hx (XO6.cell rfl) hR1
          have HO2 : Hid (∀ wx, Off R WR wx → wx.cell? ⟨w.heap.size + 1, 2, none⟩ = some (.int .i64 o.pr)) := fun wx hx => keepO hx (XO6.cell rfl) hR1
          have HO3 : Hid (∀ wx, Off R WR wx → wx.cell? ⟨w.heap.size + 1, 3, none⟩ = some (.int .i64 o.am)) := fun wx hx => keepO hx (XO6.cell rfl) hR1
          have HO4 : Hid (∀ wx, Off R WR wx → wx.cell? ⟨w.heap.size + 1, 4, none⟩ = some (.int .i64 B.nx)) := fun wx hx => keepO hx (XO6.cell rfl) hR1
          have HO5 : Hid (∀ wx, Off R WR wx → wx.cell? ⟨w.heap.size + 1, 5, none⟩ = some (.bool o.by)) := fun wx hx => keepO hx (XO6.cell rfl) hR1
          have HLN : Hid (B.os.length ≤ 64) := hlen
          have HHR : Hid _ := hR
          clear x0' x4' y0' y1' XB XO X5 b5 hb5 HX4 HY4 HV4 HB4 h64 hother XB6 XO6 HAT HRT
          go_wp2_with fail
          try rw [hR]
          clear hR hW1 hW2 hW3 hWR f4 x4'' y0'' y1''
          refine wp_region_held_drew (S := (fun wx => Off R WR wx)) (by kernel_rfl) (Off.drew (Off.refl _ _)) (fun hS => ?_)
          refine wpAnyH_take (i := 0) (v := (.pointer (some ⟨w.heap.size, 0, none⟩))) rfl (by kernel_rfl) (by kernel_rfl) (by kernel_rfl) (fun _ _ _ h => h) (Or.inl ⟨by rfl, fun wx hS => by go_simp⟩) hS ?_
          refine wpAnyH_take (i := 1) (v := (.slice la B.os.length lc)) rfl (by kernel_rfl) (by kernel_rfl) (by kernel_rfl) (fun _ _ _ h => h) (Or.inl ⟨by rfl, fun wx hS => by have s0 := HC0.out wx hS; go_simp⟩) hS ?_
          refine wpAnyH_take (i := 3) (v := (.agg #[.int .i64 o.id, .int .i64 o.own, .int .i64 o.pr, .int .i64 o.am, .int .i64 B.nx, .bool o.by])) rfl (by kernel_rfl) (by kernel_rfl) (by kernel_rfl) (fun _ _ _ h => h) (Or.inl ⟨by rfl, fun wx hS => by have s0 := HO0.out wx hS; have s1 := HO1.out wx hS; have s2 := HO2.out wx hS; have s3 := HO3.out wx hS; have s4 := HO4.out wx hS; have s5 := HO5.out wx hS; go_simp⟩) hS ?_
          refine wpAnyH_take (i := 6) (v := (.pointer (some ⟨w.heap.size, 1, none⟩))) rfl (by kernel_rfl) (by kernel_rfl) (by kernel_rfl) (fun _ _ _ h => h) (Or.inl ⟨by rfl, fun wx hS => by go_simp⟩) hS ?_
          refine wpAnyH_take (i := 7) (v := (.int .i64 B.nx)) rfl (by kernel_rfl) (by kernel_rfl) (by kernel_rfl) (fun _ _ _ h => h) (Or.inl ⟨by rfl, fun wx hS => by have s0 := HC1.out wx hS; go_simp⟩) hS ?_
          refine wpAnyH_take (i := 8) (v := (.int .i64 (B.nx + 1))) rfl (by kernel_rfl) (by kernel_rfl) (by kernel_rfl) (fun _ _ _ h => h) (Or.inl ⟨by rfl, fun wx hS => by go_simp⟩) hS ?_
          refine wpAnyH_ready (rs := [2, 4]) (by kernel_rfl) (by simp) ?_
          refine AllReadyH.cons rfl (fun K hK => ?_) (AllReadyH.cons rfl (fun K hK => ?_) AllReadyH.nil)
          · go_simp
            refine Calls.mono (HWO.out _ (Ods.below HLR.out ((Below.refl _ _).drew))) ?_
            rintro e6 w6 ⟨v6, rfl, own6, b6⟩
            refine hK.out _ _ (hS.trans (Off.of_below b6)) (fun hS => ?_)
            clear hK
            refine wpAnyH_ready (rs := [4]) (by kernel_rfl) (by simp) ?_
            refine AllReadyH.cons rfl (fun K hK => ?_) AllReadyH.nil
            go_simp
            refine hK.out _ _ (hS.alloc _) (fun hS => ?_)
            clear hK
            refine wpAnyH_ready (rs := [5]) (by kernel_rfl) (by simp) ?_
            refine AllReadyH.cons rfl (fun K hK => ?_) AllReadyH.nil
            have ROW := World.ownsRow.alloc (ownsRow_weakO (base2 := WR.heap.size) own6 (Nat.le_refl _)) (.cells #[.int .i64 o.id, .int .i64 o.own, .int .i64 o.pr, .int .i64 o.am, .int .i64 B.nx, .bool o.by] 31)
            refine step_ifB rfl ?_
            refine wp_append_own _ (.tmp 36) (.tmp 38) 25 rfl WR.heap.size 31 i6 (.agg #[.int .i64 0, .int .i64 0, .int .i64 0, .int .i64 0, .int .i64 0, .bool false]) 6 48 Try.underlying25 hi6 hy0 hy1 hy2 rfl (by decide) v6 B.os.length (odL B.os) rfl ROW ⟨w6.heap.size, 0, none⟩ 1 1 (oC (o.at_ B.nx)) rfl rfl (six_new w6 (o.at_ B.nx) _) (oC_oneO _) (by unfold maxLen; omega) (by omega) (by have := hS.size; omega) ?_
            intro v7 w7 own7 gr7 _
            obtain ⟨oa7, oc7, rfl⟩ := own_form own7
            have X7 : Blk w7 R #[.slice none 0 0, .int .i64 0] 27 := (gr7.block R (by have := hS.size; omega) (fun q => by have := (ROW.lt _ q.symm).1; omega)).trans (((XR.drew).below b6).alloc _)
            have hS7 := off_grownR hS gr7 (fun k hk => (ROW.lt k hk).1)
            refine hK.out _ _ hS7 (fun hS => ?_)
            clear hK
            refine wpAnyH_take (i := 9) (v := (.agg #[(.slice oa7 (B.os.length + 1) oc7), .int .i64 (B.nx + 1)])) rfl (by kernel_rfl) (by kernel_rfl) (by kernel_rfl) (fun _ _ _ h => h) (Or.inl ⟨by rfl, fun wx hS => by go_simp⟩) hS ?_
            obtain ⟨W9, hW9, X9, _⟩ := setRow_named X7 #[(.slice oa7 (B.os.length + 1) oc7), .int .i64 (B.nx + 1)]
            refine wpAnyH_ready (rs := [10]) (by kernel_rfl) (by simp) ?_
            refine readyH_rowC 10 rfl (ty := 27) (x := .tmp 4) (y := .tmp 43) rfl rfl rfl R #[(.slice oa7 (B.os.length + 1) oc7), .int .i64 (B.nx + 1)] (by kernel_rfl) (by kernel_rfl) 27 #[.slice none 0 0, .int .i64 0] X7 (infoBk2 _ _) rfl (oneBk2 _ _ _ _) (hS.setRow _) (fun hS => ?_)
            refine wpAnyH_ready (rs := [11]) (by kernel_rfl) (by simp) ?_
            refine AllReadyH.cons rfl (fun K hK => ?_) AllReadyH.nil
            go_simp
            try rw [hW9] at hS
            refine hK.out _ _ hS (fun hS => ?_)
            clear hK
            refine wpAnyH_done (by kernel_rfl) ?_ _
            try rw [hW9]
            go_wp2
            refine bodyPost_ret (v := .tuple #[.agg #[(.slice oa7 (B.os.length + 1) oc7), .int .i64 (B.nx + 1)], .int .i64 0]) (refPut_results X9 rfl rfl) rfl ?_
            have hb9 : Below w.heap.size w W9 := by
              have h7 := hS7.below hR2 hbR (by omega)
              exact below_row h7 hW9 hR2
            refine ⟨(.slice oa7 (B.os.length + 1) oc7), rfl, ?_, hb9, fun k hk => Or.inr (by have := own7.lt k hk; have e9 := row_size hW9; omega)⟩
            exact ods_rowW hW9 (ods_own (by rw [← odL_snocO] at own7; exact len_snoc own7)) own7 (by omega)
          · go_simp
            refine hK.out _ _ (hS.alloc _) (fun hS => ?_)
            clear hK
            refine wpAnyH_ready (rs := [2]) (by kernel_rfl) (by simp) ?_
            refine AllReadyH.cons rfl (fun K hK => ?_) AllReadyH.nil
            go_simp
            refine Calls.mono (HWO.out _ (Ods.below HLR.out (((Below.refl _ _).drew).alloc (Nat.le_refl _) _))) ?_
            rintro e6 w6 ⟨v6, rfl, own6, b6⟩
            refine hK.out _ _ (hS.trans (Off.of_below b6)) (fun hS => ?_)
            clear hK
            refine wpAnyH_ready (rs := [5]) (by kernel_rfl) (by simp) ?_
            refine AllReadyH.cons rfl (fun K hK => ?_) AllReadyH.nil
            have ROW := ownsRow_weakO (base2 := WR.heap.size) own6 (by simp)
            refine step_ifB rfl ?_
            refine wp_append_own _ (.tmp 36) (.tmp 38) 25 rfl WR.heap.size 31 i6 (.agg #[.int .i64 0, .int .i64 0, .int .i64 0, .int .i64 0, .int .i64 0, .bool false]) 6 48 Try.underlying25 hi6 hy0 hy1 hy2 rfl (by decide) v6 B.os.length (odL B.os) rfl ROW ⟨WR.heap.size, 0, none⟩ 1 1 (oC (o.at_ B.nx)) rfl rfl (fun jj u hu => keepY b6 (six_new WR.drew (o.at_ B.nx) _ jj u hu)) (oC_oneO _) (by unfold maxLen; omega) (by omega) (by have := hS.size; omega) ?_
            intro v7 w7 own7 gr7 _
            obtain ⟨oa7, oc7, rfl⟩ := own_form own7
            have X7 : Blk w7 R #[.slice none 0 0, .int .i64 0] 27 := (gr7.block R (by have := hS.size; omega) (fun q => by have := (ROW.lt _ q.symm).1; omega)).trans (((XR.drew).alloc _).below b6)
            have hS7 := off_grownR hS gr7 (fun k hk => (ROW.lt k hk).1)
            refine hK.out _ _ hS7 (fun hS => ?_)
            clear hK
            refine wpAnyH_take (i := 9) (v := (.agg #[(.slice oa7 (B.os.length + 1) oc7), .int .i64 (B.nx + 1)])) rfl (by kernel_rfl) (by kernel_rfl) (by kernel_rfl) (fun _ _ _ h => h) (Or.inl ⟨by rfl, fun wx hS => by go_simp⟩) hS ?_
            obtain ⟨W9, hW9, X9, _⟩ := setRow_named X7 #[(.slice oa7 (B.os.length + 1) oc7), .int .i64 (B.nx + 1)]
            refine wpAnyH_ready (rs := [10]) (by kernel_rfl) (by simp) ?_
            refine readyH_rowC 10 rfl (ty := 27) (x := .tmp 4) (y := .tmp 43) rfl rfl rfl R #[(.slice oa7 (B.os.length + 1) oc7), .int .i64 (B.nx + 1)] (by kernel_rfl) (by kernel_rfl) 27 #[.slice none 0 0, .int .i64 0] X7 (infoBk2 _ _) rfl (oneBk2 _ _ _ _) (hS.setRow _) (fun hS => ?_)
            refine wpAnyH_ready (rs := [11]) (by kernel_rfl) (by simp) ?_
            refine AllReadyH.cons rfl (fun K hK => ?_) AllReadyH.nil
            go_simp
            try rw [hW9] at hS
            refine hK.out _ _ hS (fun hS => ?_)
            clear hK
            refine wpAnyH_done (by kernel_rfl) ?_ _
            try rw [hW9]
            go_wp2
            refine bodyPost_ret (v := .tuple #[.agg #[(.slice oa7 (B.os.length + 1) oc7), .int .i64 (B.nx + 1)], .int .i64 0]) (refPut_results X9 rfl rfl) rfl ?_
            have hb9 : Below w.heap.size w W9 := by
              have h7 := hS7.below hR2 hbR (by omega)
              exact below_row h7 hW9 hR2
            refine ⟨(.slice oa7 (B.os.length + 1) oc7), rfl, ?_, hb9, fun k hk => Or.inr (by have := own7.lt k hk; have e9 := row_size hW9; omega)⟩
            exact ods_rowW hW9 (ods_own (by rw [← odL_snocO] at own7; exact len_snoc own7)) own7 (by omega)
    · have dp : (o.pl != 0) = true := by simp [hp]
      rw [if_pos (Or.inr hp)] at hr
      subst hr
      clear hmb hp
      go_enter Try.func16, Try.ntmps16
      go_wp2_with fail
      refine Calls.mono HRT.out ?_
      rintro e w4 ⟨rfl, g4⟩
      have b4 := g4.below
      have y0' := keepY b4 y0
      have y1' := keepY b4 y1
      have x4' := keepY b4 x4
      have hzz := HZ.out
      clear y0 y1 x0 x1 x2 x3 x4 x5
      have XX : Blk _ (w.heap.size + 2) #[.slice none 0 0, .int .i64 0] 27 := Blk.below HX3.out b4
      have ON9 : (#[lv, .int .i64 B.nx] : Array Value).all (·.oneCell') = true := oneBkO (w := w) (l := B.os) HL.out _
      obtain ⟨W9, hW9, X9, _⟩ := setRow_named XX #[lv, .int .i64 B.nx]
      go_wp2_with ((with_reducible refine st_row (ty := 27) XX (infoBk2 _ _) (sameBk2 _ _ _ _) ON9 hW9 ?_ ?_ ?_); kernel_rfl; kernel_rfl)
      refine bodyPost_ret (v := .tuple #[.agg #[lv, .int .i64 B.nx], .int .i64 1]) (refPut_results X9 rfl rfl) rfl ?_
      have hb9 := below_row (Below.trans HB.out (b4.mono (by omega))) hW9 (by omega)
      exact ⟨lv, rfl, Ods.below HL.out hb9, hb9, fun k hk => Or.inl hk⟩
set_option maxHeartbeats 8000000 in
set_option maxRecDepth 100000 in
theorem refCancel_calls (lv : Value) (x y : Int) (B : Bo) (hI : BInv B) (w : World) (h : Ods w lv B.os) (r : Int × Bo) (hr : B.cancel x y = r) :
    Calls Try.prog 11 #[.agg #[lv, .int .i64 B.nx], .int .i64 x, .int .i64 y] w (RefP lv w r) := by
  have hlen := hI.len
  obtain ⟨W1, hW1, X1, B1, Z1⟩ : ∃ W1, w.alloc (.cells #[lv, .int .i64 B.nx] 27) = W1 ∧ Blk W1 w.heap.size #[lv, .int .i64 B.nx] 27 ∧ Below w.heap.size w W1 ∧ W1.heap.size = w.heap.size + 1 := ⟨_, rfl, blk_new _ _ _ _ rfl, by go_grown, by simp⟩
  obtain ⟨W3, hW3, X3, B3, Z3⟩ : ∃ W3, W1.alloc (.cells #[.slice none 0 0, .int .i64 0] 27) = W3 ∧ Blk W3 (w.heap.size + 1) #[.slice none 0 0, .int .i64 0] 27 ∧ Below W1.heap.size W1 W3 ∧ W3.heap.size = w.heap.size + 2 := ⟨_, rfl, blk_new _ _ _ _ (by omega), by go_grown, by simp; omega⟩
  have Y1 : Blk W3 w.heap.size #[lv, .int .i64 B.nx] 27 := X1.below B3
  have B13 : Below w.heap.size w W3 := B1.trans (B3.mono (by omega))
  have HX3 : Hid _ := X3
  have HB : Hid _ := B13
  have HZ : Hid (W3.heap.size = w.heap.size + 2) := Z3
  have HL : Hid _ := h
  have y0 : W3.cell? ⟨w.heap.size, 0, none⟩ = some lv := Y1.cell rfl
  have y1 : W3.cell? ⟨w.heap.size, 1, none⟩ = some (.int .i64 B.nx) := Y1.cell rfl
  have HOW : Hid _ := refOwn_calls lv B.os B.nx x y W3 (Ods.below h B13) (by omega)
  have HY1 : Hid _ := Y1
  clear X1 X3 B1 B3 B13 Z3 h hI Y1
  unfold Bo.cancel at hr
  rcases fnd_cases B.os x with ⟨f1, _⟩ | ⟨i, o, f1, f2, f3, f4⟩
  · rw [if_pos (by rw [f1]; decide)] at hr
    have e1 : ownR B.os x y = (0, 3) := by unfold ownR; rw [if_pos (by rw [f1]; decide)]
    rw [e1] at HOW
    subst hr
    clear f1 e1
    go_enter Try.func11, Try.ntmps11
    go_wp2_with fail
    refine Calls.mono HOW.out ?_
    rintro e w4 ⟨rfl, b4⟩
    have y0' := keepY b4 y0
    have y1' := keepY b4 y1
    have hzz := HZ.out
    clear y0 y1
    have XX : Blk _ (w.heap.size + 1) #[.slice none 0 0, .int .i64 0] 27 := Blk.below HX3.out b4
    have ON9 : (#[lv, .int .i64 B.nx] : Array Value).all (·.oneCell') = true := oneBkO (w := w) (l := B.os) HL.out _
    obtain ⟨W9, hW9, X9, _⟩ := setRow_named XX #[lv, .int .i64 B.nx]
    go_wp2_with ((with_reducible refine st_row (ty := 27) XX (infoBk2 _ _) (sameBk2 _ _ _ _) ON9 hW9 ?_ ?_ ?_); kernel_rfl; kernel_rfl)
    refine bodyPost_ret (v := .tuple #[.agg #[lv, .int .i64 B.nx], .int .i64 3]) (refCancel_results X9 rfl rfl) rfl ?_
    have hb9 := below_row (Below.trans HB.out (b4.mono (by omega))) hW9 (by omega)
    exact ⟨lv, rfl, Ods.below HL.out hb9, hb9, fun k hk => Or.inl hk⟩
  · rw [if_neg (by rw [f1]; omega), gtB_some f1 f2 f3, f1] at hr
    by_cases hy : o.own = y
    · rw [if_pos hy] at hr
      have e1 : ownR B.os x y = ((i : Int), 0) := by unfold ownR; rw [if_neg (by rw [f1]; omega), gtB_some f1 f2 f3, if_pos hy, f1]
      rw [e1] at HOW
      have HWO : Hid (∀ wx, Ods wx lv B.os → Calls Try.prog 26 #[lv, .int .i64 i] wx fun e w' => ∃ v', e = .returned v' ∧ w'.ownsRow wx.heap.size 31 6 v' (B.os.eraseIdx i).length (odL (B.os.eraseIdx i)) ∧ Below wx.heap.size wx w') := fun wx hx => by
        have := without_calls lv B.os i wx hx (by omega)
        rw [wo_nat] at this
        exact this
      have HR2 : Hid (r = (0, B.rem i)) := by show _ = _; rw [← hr, Int.toNat_natCast]
      rw [HR2.out]
      clear f1 f2 f3 f4 e1 hy hr
      go_enter Try.func11, Try.ntmps11
      go_wp2_with fail
      refine Calls.mono HOW.out ?_
      rintro e WR ⟨rfl, b4⟩
      have hzz := HZ.out
      have z4 := b4.size
      have hbR : Below w.heap.size w WR := Below.trans HB.out (b4.mono (by omega))
      have XB6 := Blk.below HY1.out b4
      have XR0 := Blk.below HX3.out b4
      have HLR : Hid _ := Ods.below HL.out hbR
      obtain ⟨R, hR⟩ : ∃ R, w.heap.size + 1 = R := ⟨_, rfl⟩
      have hR0 : w.heap.size ≠ R := by omega
      have hR2 : w.heap.size ≤ R := by omega
      have XR : Blk WR R #[.slice none 0 0, .int .i64 0] 27 := by rw [← hR]; exact XR0
      have HC0 : Hid (∀ wx, Off R WR wx → wx.cell? ⟨w.heap.size, 0, none⟩ = some lv) := fun wx hx => keepO hx (XB6.cell rfl) hR0
      have HC1 : Hid (∀ wx, Off R WR wx → wx.cell? ⟨w.heap.size, 1, none⟩ = some (.int .i64 B.nx)) := fun wx hx => keepO hx (XB6.cell rfl) hR0
      go_wp2_with fail
      try rw [hR]
      clear hR hW1 hW3 XR0 XB6 b4 y0 y1
      refine wp_region_held_drew (S := (fun wx => Off R WR wx)) (by kernel_rfl) (Off.drew (Off.refl _ _)) (fun hS => ?_)
      refine wpAnyH_take (i := 0) (v := (.pointer (some ⟨w.heap.size, 0, none⟩))) rfl (by kernel_rfl) (by kernel_rfl) (by kernel_rfl) (fun _ _ _ h => h) (Or.inl ⟨by rfl, fun wx hS => by go_simp⟩) hS ?_
      refine wpAnyH_take (i := 1) (v := lv) rfl (by kernel_rfl) (by kernel_rfl) (by kernel_rfl) (fun _ _ _ h => h) (Or.inl ⟨by rfl, fun wx hS => by have s0 := HC0.out wx hS; go_simp⟩) hS ?_
      refine wpAnyH_take (i := 2) (v := (.int .i64 i)) rfl (by kernel_rfl) (by kernel_rfl) (by kernel_rfl) (fun _ _ _ h => h) (Or.inl ⟨by rfl, fun wx hS => by go_simp⟩) hS ?_
      refine wpAnyH_take (i := 4) (v := (.pointer (some ⟨w.heap.size, 1, none⟩))) rfl (by kernel_rfl) (by kernel_rfl) (by kernel_rfl) (fun _ _ _ h => h) (Or.inl ⟨by rfl, fun wx hS => by go_simp⟩) hS ?_
      refine wpAnyH_take (i := 5) (v := (.int .i64 B.nx)) rfl (by kernel_rfl) (by kernel_rfl) (by kernel_rfl) (fun _ _ _ h => h) (Or.inl ⟨by rfl, fun wx hS => by have s0 := HC1.out wx hS; go_simp⟩) hS ?_
      refine wpAnyH_ready (rs := [3]) (by kernel_rfl) (by simp) ?_
      refine AllReadyH.cons rfl (fun K hK => ?_) AllReadyH.nil
      go_simp
      refine Calls.mono (HWO.out _ (Ods.below HLR.out ((Below.refl _ _).drew))) ?_
      rintro e6 w6 ⟨v6, rfl, own6, b6⟩
      obtain ⟨oa6, oc6, rfl⟩ := own_form own6
      refine hK.out _ _ (hS.trans (Off.of_below b6)) (fun hS => ?_)
      clear hK
      have X7 := (XR.drew).below b6
      refine wpAnyH_take (i := 6) (v := (.agg #[(.slice oa6 (B.os.eraseIdx i).length oc6), .int .i64 B.nx])) rfl (by kernel_rfl) (by kernel_rfl) (by kernel_rfl) (fun _ _ _ h => h) (Or.inl ⟨by rfl, fun wx hS => by go_simp⟩) hS ?_
      obtain ⟨W9, hW9, X9, _⟩ := setRow_named X7 #[(.slice oa6 (B.os.eraseIdx i).length oc6), .int .i64 B.nx]
      refine wpAnyH_ready (rs := [7]) (by kernel_rfl) (by simp) ?_
      refine readyH_rowC 7 rfl (ty := 27) (x := .tmp 6) (y := .tmp 27) rfl rfl rfl R #[(.slice oa6 (B.os.eraseIdx i).length oc6), .int .i64 B.nx] (by kernel_rfl) (by kernel_rfl) 27 #[.slice none 0 0, .int .i64 0] X7 (infoBk2 _ _) rfl (oneBk2 _ _ _ _) (hS.setRow _) (fun hS => ?_)
      refine wpAnyH_ready (rs := [8]) (by kernel_rfl) (by simp) ?_
      refine AllReadyH.cons rfl (fun K hK => ?_) AllReadyH.nil
      go_simp
      try rw [hW9] at hS
      refine hK.out _ _ hS (fun hS => ?_)
      clear hK
      refine wpAnyH_done (by kernel_rfl) ?_ _
      try rw [hW9]
      go_wp2
      refine bodyPost_ret (v := .tuple #[.agg #[(.slice oa6 (B.os.eraseIdx i).length oc6), .int .i64 B.nx], .int .i64 0]) (refCancel_results X9 rfl rfl) rfl ?_
      have hb9 : Below w.heap.size w W9 := below_row (hbR.trans (((Below.refl WR.heap.size WR).drew.trans b6).mono hbR.size)) hW9 hR2
      have hlt : w.heap.size ≤ WR.drew.heap.size := hbR.size
      have hR4 : R < WR.drew.heap.size := XR.lt
      exact ⟨(.slice oa6 (B.os.eraseIdx i).length oc6), rfl, ods_rowW hW9 (ods_own own6) own6 hR4, hb9, fun k hk => Or.inr (by have := own6.lt k hk; have e9 := row_size hW9; have e8 : WR.drew.heap.size = WR.heap.size := rfl; omega)⟩
    · rw [if_neg hy] at hr
      have e1 : ownR B.os x y = (0, 80) := by unfold ownR; rw [if_neg (by rw [f1]; omega), gtB_some f1 f2 f3, if_neg hy]
      rw [e1] at HOW
      subst hr
      clear f1 f2 f3 f4 e1 hy
      go_enter Try.func11, Try.ntmps11
      go_wp2_with fail
      refine Calls.mono HOW.out ?_
      rintro e w4 ⟨rfl, b4⟩
      have y0' := keepY b4 y0
      have y1' := keepY b4 y1
      have hzz := HZ.out
      clear y0 y1
      have XX : Blk _ (w.heap.size + 1) #[.slice none 0 0, .int .i64 0] 27 := Blk.below HX3.out b4
      have ON9 : (#[lv, .int .i64 B.nx] : Array Value).all (·.oneCell') = true := oneBkO (w := w) (l := B.os) HL.out _
      obtain ⟨W9, hW9, X9, _⟩ := setRow_named XX #[lv, .int .i64 B.nx]
      go_wp2_with ((with_reducible refine st_row (ty := 27) XX (infoBk2 _ _) (sameBk2 _ _ _ _) ON9 hW9 ?_ ?_ ?_); kernel_rfl; kernel_rfl)
      refine bodyPost_ret (v := .tuple #[.agg #[lv, .int .i64 B.nx], .int .i64 80]) (refCancel_results X9 rfl rfl) rfl ?_
      have hb9 := below_row (Below.trans HB.out (b4.mono (by omega))) hW9 (by omega)
      exact ⟨lv, rfl, Ods.below HL.out hb9, hb9, fun k hk => Or.inl hk⟩
end Go.Proofs.Ytglbfeccdibmiaa
