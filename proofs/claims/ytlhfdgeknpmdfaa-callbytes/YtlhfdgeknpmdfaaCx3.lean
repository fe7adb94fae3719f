/- The document's Put and Cancel. -/
import Derived.Test.YtlhfdgeknpmdfaaCdA
import Derived.Test.YtlhfdgeknpmdfaaCaRi
import Derived.Test.YtlhfdgeknpmdfaaCx1
import Derived.Test.YtlhfdgeknpmdfaaCx2
namespace Go.Proofs.Ytlhfdgeknpmdfaa
open Go.RowKit
set_option linter.unusedSimpArgs false
set_option linter.unusedVariables false
theorem keepO {r : Nat} {W wx : World} (h : Off r W wx) {a : Addr} {u : Value} (c : W.cell? a = some u) (hn : a.block ≠ r) : wx.cell? a = some u := (h.cell (World.block_lt_of_cell? W _ c) hn).trans c
theorem off_grownR {r : Nat} {W w w' : World} {row : Option Nat} (h : Off r W w) (g : w.grownBy w' row) (hr : ∀ k, row = some k → W.heap.size ≤ k) : Off r W w' :=
  ⟨g.os.trans h.os, g.tape.trans h.tape, g.output.trans h.output, Nat.le_trans h.size g.size, fun k hk hb => (g.block k (Nat.lt_of_lt_of_le hk h.size) (fun e => by have := hr k e.symm; omega)).trans (h.block k hk hb)⟩
theorem oneBkO {w : World} {v : Value} {l : List Od} (h : Ods w v l) (x : Int) : (#[v, .int .i64 x] : Array Value).all (·.oneCell') = true := by
  obtain ⟨q, c, rfl, _⟩ := h
  simp [Value.oneCell']
theorem infoBk2L (u v : Value) : (Try.prog.info? 34).map (·.size) = some (#[u, v] : Array Value).size := by kernel_rfl
theorem row_size {w W : World} {r : Nat} {cs : Array Value} (h : w.setRow r cs = W) : W.heap.size = w.heap.size := by rw [← h]; simp
theorem wo_neg (l : List Od) {x : Int} (h : x < 0) : wo l x = l := by unfold wo; rw [if_neg (by omega)]
theorem wo_nat (l : List Od) (i : Nat) : wo l (i : Int) = l.eraseIdx i := by unfold wo; rw [if_pos (by omega), Int.toNat_natCast]
theorem wo_len (l : List Od) (x : Int) : (wo l x).length ≤ l.length := by
  unfold wo
  split
  · exact List.length_eraseIdx_le ..
  · exact Nat.le_refl _
theorem len_snoc {w : World} {b : Nat} {v : Value} {l : List Od} {o : Od} (h : w.ownsRow b 28 6 v (l.length + 1) (odL (l ++ [o]))) : w.ownsRow b 28 6 v (l ++ [o]).length (odL (l ++ [o])) := by
  rw [List.length_append]; exact h
theorem ods_rowW {w W : World} {r b z n : Nat} {t : TypeId} {v : Value} {cs : Array Value} {xs : List Value} (hW : w.setRow r cs = W) {l : List Od} (h : Ods w v l) (hv : w.ownsRow b t z v n xs) (hr : r < b) : Ods W v l := by
  obtain ⟨pp, cap, rfl, hc⟩ := h
  refine ⟨pp, cap, rfl, ?_⟩
  rcases hc with h1 | ⟨g, off, rfl, hx⟩
  · exact Or.inl h1
  · refine Or.inr ⟨g, off, rfl, fun k x i u h2 h3 => rowK hW (hx k x i u h2 h3) ?_⟩
    have := (hv.lt g rfl).1
    show g ≠ r
    omega
/-- The document's book behind a call: its orders; they lie where they lay, or are new. -/
def RefP (lv : Value) (w : World) (r : Int × Bo) (e : Ending) (w' : World) : Prop := ∃ lv', e = .returned (.tuple #[.agg #[lv', .int .i64 r.2.nx], .int .i64 r.1]) ∧ Ods w' lv' r.2.os ∧ Below w.heap.size w w' ∧ ∀ k, lv'.ownBlock = some k → lv.ownBlock = some k ∨ (w.heap.size ≤ k ∧ k < w'.heap.size)
theorem refPut_results {w' : World} {c0 c1 v : Value} {r : Nat} (X : Blk w' r #[c0, c1] 34) {t : Array Value} (h1 : t.getD 4 undef = .pointer (some ⟨r, 0, none⟩)) (h2 : t.getD 5 undef = v) :
    (results Try.f35 t).run Try.prog w' = .ok (.tuple #[.agg #[c0, c1], v]) w' := by
  have a0 := X.cell (o := 0) rfl
  have a1 := X.cell (o := 1) rfl
  simp only [Array.getD_eq_getD_getElem?] at h1 h2
  simp [results, Try.results35, go_sem, h1, h2, a0, a1]
theorem refCancel_results {w' : World} {c0 c1 v : Value} {r : Nat} (X : Blk w' r #[c0, c1] 34) {t : Array Value} (h1 : t.getD 6 undef = .pointer (some ⟨r, 0, none⟩)) (h2 : t.getD 7 undef = v) :
    (results Try.f32 t).run Try.prog w' = .ok (.tuple #[.agg #[c0, c1], v]) w' := by
  have a0 := X.cell (o := 0) rfl
  have a1 := X.cell (o := 1) rfl
  simp only [Array.getD_eq_getD_getElem?] at h1 h2
  simp [results, Try.results32, go_sem, h1, h2, a0, a1]
set_option maxHeartbeats 8000000 in
set_option maxRecDepth 100000 in
theorem refPut_calls (lv : Value) (o : Od) (B : Bo) (hI : BInv B) (w : World) (h : Ods w lv B.os) (r : Int × Bo) (hr : B.put o = r) :
    Calls Try.prog 35 #[.agg #[lv, .int .i64 B.nx], .agg #[.int .i64 o.id, .int .i64 o.own, .int .i64 o.pr, .int .i64 o.am, .int .i64 o.pl, .bool o.by]] w (RefP lv w r) := by
  obtain ⟨i6, hi6, hy0, hy1, hy2⟩ := info_parts infoOd6
  have hlen := hI.len
  have hnx1 := hI.nx1
  have hnx2 := hI.nx2
  obtain ⟨W1, hW1, X1, B1, Z1⟩ : ∃ W1, w.alloc (.cells #[lv, .int .i64 B.nx] 34) = W1 ∧ Blk W1 w.heap.size #[lv, .int .i64 B.nx] 34 ∧ Below w.heap.size w W1 ∧ W1.heap.size = w.heap.size + 1 := ⟨_, rfl, blk_new _ _ _ _ rfl, by go_grown, by simp⟩
  obtain ⟨W2, hW2, X2, B2, Z2⟩ : ∃ W2, W1.alloc (.cells #[.int .i64 o.id, .int .i64 o.own, .int .i64 o.pr, .int .i64 o.am, .int .i64 o.pl, .bool o.by] 28) = W2 ∧ Blk W2 (w.heap.size + 1) #[.int .i64 o.id, .int .i64 o.own, .int .i64 o.pr, .int .i64 o.am, .int .i64 o.pl, .bool o.by] 28 ∧ Below W1.heap.size W1 W2 ∧ W2.heap.size = w.heap.size + 2 := ⟨_, rfl, blk_new _ _ _ _ (by omega), by go_grown, by simp; omega⟩
  obtain ⟨W3, hW3, X3, B3, Z3⟩ : ∃ W3, W2.alloc (.cells #[.slice none 0 0, .int .i64 0] 34) = W3 ∧ Blk W3 (w.heap.size + 2) #[.slice none 0 0, .int .i64 0] 34 ∧ Below W2.heap.size W2 W3 ∧ W3.heap.size = w.heap.size + 3 := ⟨_, rfl, blk_new _ _ _ _ (by omega), by go_grown, by simp; omega⟩
  have Y2 : Blk W3 (w.heap.size + 1) #[.int .i64 o.id, .int .i64 o.own, .int .i64 o.pr, .int .i64 o.am, .int .i64 o.pl, .bool o.by] 28 := X2.below B3
  have Y1 : Blk W3 w.heap.size #[lv, .int .i64 B.nx] 34 := (X1.below B2).below B3
  have B13 : Below w.heap.size w W3 := (B1.trans (B2.mono (by omega))).trans (B3.mono (by omega))
  have HX3 : Hid _ := X3
  have HY1 : Hid _ := Y1
  have HY2 : Hid _ := Y2
  have HB : Hid _ := B13
  have HZ : Hid (W3.heap.size = w.heap.size + 3) := Z3
  have HL : Hid _ := h
  have y0 : W3.cell? ⟨w.heap.size, 0, none⟩ = some lv := Y1.cell rfl
  have y1 : W3.cell? ⟨w.heap.size, 1, none⟩ = some (.int .i64 B.nx) := Y1.cell rfl
  have x0 : W3.cell? ⟨w.heap.size + 1, 0, none⟩ = some (.int .i64 o.id) := Y2.cell rfl
  have x1 : W3.cell? ⟨w.heap.size + 1, 1, none⟩ = some (.int .i64 o.own) := Y2.cell rfl
  have x2 : W3.cell? ⟨w.heap.size + 1, 2, none⟩ = some (.int .i64 o.pr) := Y2.cell rfl
  have x3 : W3.cell? ⟨w.heap.size + 1, 3, none⟩ = some (.int .i64 o.am) := Y2.cell rfl
  have x4 : W3.cell? ⟨w.heap.size + 1, 4, none⟩ = some (.int .i64 o.pl) := Y2.cell rfl
  have x5 : W3.cell? ⟨w.heap.size + 1, 5, none⟩ = some (.bool o.by) := Y2.cell rfl
  have HRT : Hid _ := right_calls o W3
  clear X1 X2 X3 Y1 Y2 B1 B2 B3 B13 Z3 h hI
  unfold Bo.put at hr
  cases hmb : mayB o
  · rw [if_pos (Or.inl hmb)] at hr
    subst hr
    rw [hmb] at HRT
    clear hmb
    go_enter Try.func35, Try.ntmps35
    go_wp2_with fail
    refine Calls.mono HRT.out ?_
    rintro e w4 ⟨rfl, g4⟩
    have b4 := g4.below
    have y0' := keepY b4 y0
    have y1' := keepY b4 y1
    have hzz := HZ.out
    have XX : Blk _ (w.heap.size + 2) #[.slice none 0 0, .int .i64 0] 34 := Blk.below HX3.out b4
    have ON9 : (#[lv, .int .i64 B.nx] : Array Value).all (·.oneCell') = true := oneBkO (w := w) (l := B.os) HL.out _
    obtain ⟨W9, hW9, X9, _⟩ := setRow_named XX #[lv, .int .i64 B.nx]
    go_wp2_with ((with_reducible refine st_row (ty := 34) XX (infoBk2 _ _) (sameBk2 _ _ _ _) ON9 hW9 ?_ ?_ ?_); kernel_rfl; kernel_rfl)
    refine bodyPost_ret (v := .tuple #[.agg #[lv, .int .i64 B.nx], .int .i64 1]) (refPut_results X9 rfl rfl) rfl ?_
    have hb9 := below_row (Below.trans HB.out (b4.mono (by omega))) hW9 (by omega)
    exact ⟨lv, rfl, Ods.below HL.out hb9, hb9, fun k hk => Or.inl hk⟩
  · rw [hmb] at HRT
    by_cases hp : o.pl = 0
    · have dp : (o.pl != 0) = false := by simp [hp]
      have HP : Hid _ := hp
      rw [if_neg (by rw [hmb]; simp [hp])] at hr
      have HAT : Hid (∀ wx, Ods wx lv B.os → Calls Try.prog 30 #[.agg #[lv, .int .i64 B.nx], .int .i64 o.id] wx fun e w' => e = .returned (.int .i64 (fnd B.os o.id)) ∧ Below wx.heap.size wx w') := fun wx hx => refAt_calls lv B.os B.nx o.id wx hx (by omega)
      have HRR : Hid _ := hr
      clear hmb hp hr
      obtain ⟨f, HF⟩ : ∃ f, Hid (fnd B.os o.id = f) := ⟨_, rfl⟩
      rw [HF.out] at HAT
      by_cases hf : 0 ≤ f
      · have df : decide (0 ≤ f) = true := decide_eq_true hf
        have HR2 : Hid (r = (63, B)) := by have := HRR.out; rw [if_pos (by rw [HF.out]; exact hf)] at this; exact this.symm
        rw [HR2.out]
        clear hf
        go_enter Try.func35, Try.ntmps35
        go_wp2_with fail
        refine Calls.mono HRT.out ?_
        rintro e w4 ⟨rfl, g4⟩
        have b4 := g4.below
        have y0' := keepY b4 y0
        have y1' := keepY b4 y1
        have x0' := keepY b4 x0
        have x4' := keepY b4 x4
        have hzz := HZ.out
        have HB4 : Hid _ := Below.trans HB.out (b4.mono (by omega))
        have HX4 : Hid _ := Blk.below HX3.out b4
        have z4 := b4.size
        clear b4 g4 y0 y1 x0 x1 x2 x3 x4 x5
        go_wp2_with fail
        refine Calls.mono (HAT.out _ (Ods.below HL.out HB4.out)) ?_
        rintro e w5 ⟨rfl, b5⟩
        have y0'' := keepY b5 y0'
        have y1'' := keepY b5 y1'
        clear y0' y1'
        have XX : Blk _ (w.heap.size + 2) #[.slice none 0 0, .int .i64 0] 34 := Blk.below HX4.out b5
        have ON9 : (#[lv, .int .i64 B.nx] : Array Value).all (·.oneCell') = true := oneBkO (w := w) (l := B.os) HL.out _
        obtain ⟨W9, hW9, X9, _⟩ := setRow_named XX #[lv, .int .i64 B.nx]
        go_wp2_with ((with_reducible refine st_row (ty := 34) XX (infoBk2 _ _) (sameBk2 _ _ _ _) ON9 hW9 ?_ ?_ ?_); kernel_rfl; kernel_rfl)
        refine bodyPost_ret (v := .tuple #[.agg #[lv, .int .i64 B.nx], .int .i64 63]) (refPut_results X9 rfl rfl) rfl ?_
        have hb9 := below_row (Below.trans HB4.out (b5.mono (by omega))) hW9 (by omega)
        exact ⟨lv, rfl, Ods.below HL.out hb9, hb9, fun k hk => Or.inl hk⟩
      · have df : decide (0 ≤ f) = false := decide_eq_false hf
        have HR1 : Hid ((if B.os.length = 64 ∨ B.nx = 9007199254740992 then ((2 : Int), B) else (0, B.stand o)) = r) := by have := HRR.out; rw [if_neg (by rw [HF.out]; exact hf)] at this; exact this
        obtain ⟨la, lc, rfl, _⟩ := id HL.out
        clear hf
        by_cases h64 : B.os.length = 64 ∨ B.nx = 9007199254740992
        · have HR2 : Hid (r = (2, B)) := by have := HR1.out; rw [if_pos h64] at this; exact this.symm
          rw [HR2.out]
          go_enter Try.func35, Try.ntmps35
          go_wp2_with fail
          refine Calls.mono HRT.out ?_
          rintro e w4 ⟨rfl, g4⟩
          have b4 := g4.below
          have y0' := keepY b4 y0
          have y1' := keepY b4 y1
          have x0' := keepY b4 x0
          have x4' := keepY b4 x4
          have hzz := HZ.out
          have HB4 : Hid _ := Below.trans HB.out (b4.mono (by omega))
          have HX4 : Hid _ := Blk.below HX3.out b4
          have z4 := b4.size
          clear b4 g4 y0 y1 x0 x1 x2 x3 x4 x5
          go_wp2_with fail
          refine Calls.mono (HAT.out _ (Ods.below HL.out HB4.out)) ?_
          rintro e w5 ⟨rfl, b5⟩
          have y0'' := keepY b5 y0'
          have y1'' := keepY b5 y1'
          have X5 := Blk.below HX4.out b5
          have hb5 := Below.trans HB4.out (b5.mono (by omega))
          have HX5 : Hid _ := X5
          have HB5 : Hid _ := hb5
          clear y0' y1' X5 hb5 b5 x0' x4' HX4 HB4 HAT HRT
          by_cases h6 : B.os.length = 64
          · have d6 : decide ((64 : Int) ≤ (B.os.length : Int)) = true := decide_eq_true (by omega)
            have H6 : Hid _ := h6
            clear h6 h64 hlen
            have XX : Blk _ (w.heap.size + 2) #[.slice none 0 0, .int .i64 0] 34 := HX5.out
            have ON9 : (#[(.slice la B.os.length lc), .int .i64 B.nx] : Array Value).all (·.oneCell') = true := oneBkO (w := w) (l := B.os) HL.out _
            obtain ⟨W9, hW9, X9, _⟩ := setRow_named XX #[(.slice la B.os.length lc), .int .i64 B.nx]
            go_wp2_with ((with_reducible refine st_row (ty := 34) XX (infoBk2 _ _) (sameBk2 _ _ _ _) ON9 hW9 ?_ ?_ ?_); kernel_rfl; kernel_rfl)
            refine bodyPost_ret (v := .tuple #[.agg #[(.slice la B.os.length lc), .int .i64 B.nx], .int .i64 2]) (refPut_results X9 rfl rfl) rfl ?_
            have hb9 := below_row (HB5.out) hW9 (by omega)
            exact ⟨_, rfl, Ods.below HL.out hb9, hb9, fun k hk => Or.inl hk⟩
          · have d6 : decide ((64 : Int) ≤ (B.os.length : Int)) = false := decide_eq_false (by omega)
            have d7 : decide ((9007199254740992 : Int) ≤ B.nx) = true := decide_eq_true (by rcases h64 with q | q <;> omega)
            clear h6 h64
            have XX : Blk _ (w.heap.size + 2) #[.slice none 0 0, .int .i64 0] 34 := HX5.out
            have ON9 : (#[(.slice la B.os.length lc), .int .i64 B.nx] : Array Value).all (·.oneCell') = true := oneBkO (w := w) (l := B.os) HL.out _
            obtain ⟨W9, hW9, X9, _⟩ := setRow_named XX #[(.slice la B.os.length lc), .int .i64 B.nx]
            go_wp2_with ((with_reducible refine st_row (ty := 34) XX (infoBk2 _ _) (sameBk2 _ _ _ _) ON9 hW9 ?_ ?_ ?_); kernel_rfl; kernel_rfl)
            refine bodyPost_ret (v := .tuple #[.agg #[(.slice la B.os.length lc), .int .i64 B.nx], .int .i64 2]) (refPut_results X9 rfl rfl) rfl ?_
            have hb9 := below_row (HB5.out) hW9 (by omega)
            exact ⟨_, rfl, Ods.below HL.out hb9, hb9, fun k hk => Or.inl hk⟩
        · have HR2 : Hid (r = (0, B.stand o)) := by have := HR1.out; rw [if_neg h64] at this; exact this.symm
          rw [HR2.out]
          have d6 : decide ((64 : Int) ≤ (B.os.length : Int)) = false := decide_eq_false (by omega)
          have d7 : decide ((9007199254740992 : Int) ≤ B.nx) = false := decide_eq_false (by omega)
          have hwn : IntKind.i64.wrap (B.nx + 1) = B.nx + 1 := by rw [IntKind.wrap_i64]; omega
          have HWO : Hid (∀ wx, Ods wx (.slice la B.os.length lc) B.os → Calls Try.prog 52 #[.slice la B.os.length lc, .int .i64 (-1)] wx fun e w' => ∃ v', e = .returned v' ∧ w'.ownsRow wx.heap.size 28 6 v' B.os.length (odL B.os) ∧ Below wx.heap.size wx w') := fun wx hx => by
            have := without_calls (.slice la B.os.length lc) B.os (-1) wx hx (by omega)
            rw [wo_neg B.os (show (-1 : Int) < 0 by decide)] at this
            exact this
          go_enter Try.func35, Try.ntmps35
          go_wp2_with fail
          refine Calls.mono HRT.out ?_
          rintro e w4 ⟨rfl, g4⟩
          have b4 := g4.below
          have y0' := keepY b4 y0
          have y1' := keepY b4 y1
          have x0' := keepY b4 x0
          have x4' := keepY b4 x4
          have hzz := HZ.out
          have HB4 : Hid _ := Below.trans HB.out (b4.mono (by omega))
          have HX4 : Hid _ := Blk.below HX3.out b4
          have HY4 : Hid _ := Blk.below HY1.out b4
          have HV4 : Hid _ := Blk.below HY2.out b4
          have z4 := b4.size
          clear b4 g4 y0 y1 x0 x1 x2 x3 x4 x5
          go_wp2_with fail
          refine Calls.mono (HAT.out _ (Ods.below HL.out HB4.out)) ?_
          rintro e w5 ⟨rfl, b5⟩
          have y0'' := keepY b5 y0'
          have y1'' := keepY b5 y1'
          have XB : Blk w5 w.heap.size #[.slice la B.os.length lc, .int .i64 B.nx] 34 := Blk.below HY4.out b5
          have XO : Blk w5 (w.heap.size + 1) #[.int .i64 o.id, .int .i64 o.own, .int .i64 o.pr, .int .i64 o.am, .int .i64 o.pl, .bool o.by] 28 := Blk.below HV4.out b5
          have X5 : Blk w5 (w.heap.size + 2) #[.slice none 0 0, .int .i64 0] 34 := Blk.below HX4.out b5
          have z5 := b5.size
          have hb5 : Below w.heap.size w w5 := Below.trans HB4.out (b5.mono (by omega))
          have f4 : w5.frozen? ⟨w.heap.size + 1, 4, none⟩ = false := XO.frozen
          have x4'' : w5.cell? ⟨w.heap.size + 1, 4, none⟩ = some (.int .i64 o.pl) := XO.cell rfl
          obtain ⟨WR, hWR, XO6, hother⟩ : ∃ WR, w5.setCell ⟨w.heap.size + 1, 4, none⟩ (.int .i64 B.nx) = WR ∧ Blk WR (w.heap.size + 1) #[.int .i64 o.id, .int .i64 o.own, .int .i64 o.pr, .int .i64 o.am, .int .i64 B.nx, .bool o.by] 28 ∧ Off (w.heap.size + 1) w5 WR := ⟨_, rfl, XO.set 4 _, Off.setCell (Off.refl (w.heap.size + 1) w5) (p := ⟨w.heap.size + 1, 4, none⟩) rfl _⟩
          have XB6 := XB.off hother (by omega)
          have XR := X5.off hother (by omega)
          have hbR : Below w.heap.size w WR := hother.below (by omega) hb5 (by omega)
          have HLR : Hid _ := Ods.below HL.out hbR
          have hzR := hother.size
          obtain ⟨R, hR⟩ : ∃ R, w.heap.size + 2 = R := ⟨_, rfl⟩
          have hRlt : R < WR.heap.size := by omega
          have hR0 : w.heap.size ≠ R := by omega
          have hR1 : w.heap.size + 1 ≠ R := by omega
          have hR2 : w.heap.size ≤ R := by omega
          rw [hR] at XR
          have HC0 : Hid (∀ wx, Off R WR wx → wx.cell? ⟨w.heap.size, 0, none⟩ = some (.slice la B.os.length lc)) := fun wx hx => keepO hx (XB6.cell rfl) hR0
          have HC1 : Hid (∀ wx, Off R WR wx → wx.cell? ⟨w.heap.size, 1, none⟩ = some (.int .i64 B.nx)) := fun wx hx => keepO hx (XB6.cell rfl) hR0
          have HO0 : Hid (∀ wx, Off R WR wx → wx.cell? ⟨w.heap.size + 1, 0, none⟩ = some (.int .i64 o.id)) := fun wx hx => keepO hx (XO6.cell rfl) hR1
          have HO1 : Hid (∀ wx, Off R WR wx → wx.cell? ⟨w.heap.size + 1, 1, none⟩ = some (.int .i64 o.own)) := fun wx hx => keepO hx (XO6.cell rfl) hR1
          have HO2 : Hid (∀ wx, Off R WR wx → wx.cell? ⟨w.heap.size + 1, 2, none⟩ = some (.int .i64 o.pr)) := fun wx hx => keepO hx (XO6.cell rfl) hR1
          have HO3 : Hid (∀ wx, Off R WR wx → wx.cell? ⟨w.heap.size + 1, 3, none⟩ = some (.int .i64 o.am)) := fun wx hx => keepO hx (XO6.cell rfl) hR1
          have HO4 : Hid (∀ wx, Off R WR wx → wx.cell? ⟨w.heap.size + 1, 4, none⟩ = some (.int .i64 B.nx)) := fun wx hx => keepO hx (XO6.cell rfl) hR1
          have HO5 : Hid (∀ wx, Off R WR wx → wx.cell? ⟨w.heap.size + 1, 5, none⟩ = some (.bool o.by)) := fun wx hx => keepO hx (XO6.cell rfl) hR1
          have HLN : Hid (B.os.length ≤ 64) := hlen
          have HHR : Hid _ := hR
          clear x0' x4' y0' y1' XB XO X5 b5 hb5 HX4 HY4 HV4 HB4 h64 hother XB6 XO6 HAT HRT
          go_wp2_with fail
          try rw [hR]
          clear hR hW1 hW2 hW3 hWR f4 x4'' y0'' y1''
          refine wp_region_held_drew (S := (fun wx => Off R WR wx)) (by kernel_rfl) (Off.drew (Off.refl _ _)) (fun hS => ?_)
          refine wpAnyH_take (i := 0) (v := (.pointer (some ⟨w.heap.size, 0, none⟩))) rfl (by kernel_rfl) (by kernel_rfl) (by kernel_rfl) (fun _ _ _ h => h) (Or.inl ⟨by rfl, fun wx hS => by go_simp⟩) hS ?_
          refine wpAnyH_take (i := 1) (v := (.slice la B.os.length lc)) rfl (by kernel_rfl) (by kernel_rfl) (by kernel_rfl) (fun _ _ _ h => h) (Or.inl ⟨by rfl, fun wx hS => by have s0 := HC0.out wx hS; go_simp⟩) hS ?_
          refine wpAnyH_take (i := 3) (v := (.agg #[.int .i64 o.id, .int .i64 o.own, .int .i64 o.pr, .int .i64 o.am, .int .i64 B.nx, .bool o.by])) rfl (by kernel_rfl) (by kernel_rfl) (by kernel_rfl) (fun _ _ _ h => h) (Or.inl ⟨by rfl, fun wx hS => by have s0 := HO0.out wx hS; have s1 := HO1.out wx hS; have s2 := HO2.out wx hS; have s3 := HO3.out wx hS; have s4 := HO4.out wx hS; have s5 := HO5.out wx hS; go_simp⟩) hS ?_
          refine wpAnyH_take (i := 6) (v := (.pointer (some ⟨w.heap.size, 1, none⟩))) rfl (by kernel_rfl) (by kernel_rfl) (by kernel_rfl) (fun _ _ _ h => h) (Or.inl ⟨by rfl, fun wx hS => by go_simp⟩) hS ?_
          refine wpAnyH_take (i := 7) (v := (.int .i64 B.nx)) rfl (by kernel_rfl) (by kernel_rfl) (by kernel_rfl) (fun _ _ _ h => h) (Or.inl ⟨by rfl, fun wx hS => by have s0 := HC1.out wx hS; go_simp⟩) hS ?_
          refine wpAnyH_take (i := 8) (v := (.int .i64 (B.nx + 1))) rfl (by kernel_rfl) (by kernel_rfl) (by kernel_rfl) (fun _ _ _ h => h) (Or.inl ⟨by rfl, fun wx hS => by go_simp⟩) hS ?_
          refine wpAnyH_ready (rs := [2, 4]) (by kernel_rfl) (by simp) ?_
          refine AllReadyH.cons rfl (fun K hK => ?_) (AllReadyH.cons rfl (fun K hK => ?_) AllReadyH.nil)
          · go_simp
            refine Calls.mono (HWO.out _ (Ods.below HLR.out ((Below.refl _ _).drew))) ?_
            rintro e6 w6 ⟨v6, rfl, own6, b6⟩
            refine hK.out _ _ (hS.trans (Off.of_below b6)) (fun hS => ?_)
            clear hK
            refine wpAnyH_ready (rs := [4]) (by kernel_rfl) (by simp) ?_
            refine AllReadyH.cons rfl (fun K hK => ?_) AllReadyH.nil
            go_simp
            refine hK.out _ _ (hS.alloc _) (fun hS => ?_)
            clear hK
            refine wpAnyH_ready (rs := [5]) (by kernel_rfl) (by simp) ?_
            refine AllReadyH.cons rfl (fun K hK => ?_) AllReadyH.nil
            have ROW := World.ownsRow.alloc (ownsRow_weakO (base2 := WR.heap.size) own6 (Nat.le_refl _)) (.cells #[.int .i64 o.id, .int .i64 o.own, .int .i64 o.pr, .int .i64 o.am, .int .i64 B.nx, .bool o.by] 28)
            refine step_ifB rfl ?_
            refine wp_append_own _ (.tmp 36) (.tmp 38) 25 rfl WR.heap.size 28 i6 (.agg #[.int .i64 0, .int .i64 0, .int .i64 0, .int .i64 0, .int .i64 0, .bool false]) 6 48 Try.underlying25 hi6 hy0 hy1 hy2 rfl (by decide) v6 B.os.length (odL B.os) rfl ROW ⟨w6.heap.size, 0, none⟩ 1 1 (oC (o.at_ B.nx)) rfl rfl (six_new w6 (o.at_ B.nx) _) (oC_oneO _) (by unfold maxLen; omega) (by omega) (by have := hS.size; omega) ?_
            intro v7 w7 own7 gr7 _
            obtain ⟨oa7, oc7, rfl⟩ := own_form own7
            have X7 : Blk w7 R #[.slice none 0 0, .int .i64 0] 34 := (gr7.block R (by have := hS.size; omega) (fun q => by have := (ROW.lt _ q.symm).1; omega)).trans (((XR.drew).below b6).alloc _)
            have hS7 := off_grownR hS gr7 (fun k hk => (ROW.lt k hk).1)
            refine hK.out _ _ hS7 (fun hS => ?_)
            clear hK
            refine wpAnyH_take (i := 9) (v := (.agg #[(.slice oa7 (B.os.length + 1) oc7), .int .i64 (B.nx + 1)])) rfl (by kernel_rfl) (by kernel_rfl) (by kernel_rfl) (fun _ _ _ h => h) (Or.inl ⟨by rfl, fun wx hS => by go_simp⟩) hS ?_
            obtain ⟨W9, hW9, X9, _⟩ := setRow_named X7 #[(.slice oa7 (B.os.length + 1) oc7), .int .i64 (B.nx + 1)]
            refine wpAnyH_ready (rs := [10]) (by kernel_rfl) (by simp) ?_
            refine readyH_rowC 10 rfl (ty := 34) (x := .tmp 4) (y := .tmp 43) rfl rfl rfl R #[(.slice oa7 (B.os.length + 1) oc7), .int .i64 (B.nx + 1)] (by kernel_rfl) (by kernel_rfl) 34 #[.slice none 0 0, .int .i64 0] X7 (infoBk2 _ _) rfl (oneBk2 _ _ _ _) (hS.setRow _) (fun hS => ?_)
            refine wpAnyH_ready (rs := [11]) (by kernel_rfl) (by simp) ?_
            refine AllReadyH.cons rfl (fun K hK => ?_) AllReadyH.nil
            go_simp
            try rw [hW9] at hS
            refine hK.out _ _ hS (fun hS => ?_)
            clear hK
            refine wpAnyH_done (by kernel_rfl) ?_ _
            try rw [hW9]
            go_wp2
            refine bodyPost_ret (v := .tuple #[.agg #[(.slice oa7 (B.os.length + 1) oc7), .int .i64 (B.nx + 1)], .int .i64 0]) (refPut_results X9 rfl rfl) rfl ?_
            have hb9 : Below w.heap.size w W9 := by
              have h7 := hS7.below hR2 hbR (by omega)
              exact below_row h7 hW9 hR2
            refine ⟨(.slice oa7 (B.os.length + 1) oc7), rfl, ?_, hb9, fun k hk => Or.inr (by have := own7.lt k hk; have e9 := row_size hW9; omega)⟩
            exact ods_rowW hW9 (ods_own (by rw [← odL_snocO] at own7; exact len_snoc own7)) own7 (by omega)
          · go_simp
            refine hK.out _ _ (hS.alloc _) (fun hS => ?_)
            clear hK
            refine wpAnyH_ready (rs := [2]) (by kernel_rfl) (by simp) ?_
            refine AllReadyH.cons rfl (fun K hK => ?_) AllReadyH.nil
            go_simp
            refine Calls.mono (HWO.out _ (Ods.below HLR.out (((Below.refl _ _).drew).alloc (Nat.le_refl _) _))) ?_
            rintro e6 w6 ⟨v6, rfl, own6, b6⟩
            refine hK.out _ _ (hS.trans (Off.of_below b6)) (fun hS => ?_)
            clear hK
            refine wpAnyH_ready (rs := [5]) (by kernel_rfl) (by simp) ?_
            refine AllReadyH.cons rfl (fun K hK => ?_) AllReadyH.nil
            have ROW := ownsRow_weakO (base2 := WR.heap.size) own6 (by simp)
            refine step_ifB rfl ?_
            refine wp_append_own _ (.tmp 36) (.tmp 38) 25 rfl WR.heap.size 28 i6 (.agg #[.int .i64 0, .int .i64 0, .int .i64 0, .int .i64 0, .int .i64 0, .bool false]) 6 48 Try.underlying25 hi6 hy0 hy1 hy2 rfl (by decide) v6 B.os.length (odL B.os) rfl ROW ⟨WR.heap.size, 0, none⟩ 1 1 (oC (o.at_ B.nx)) rfl rfl (fun jj u hu => keepY b6 (six_new WR.drew (o.at_ B.nx) _ jj u hu)) (oC_oneO _) (by unfold maxLen; omega) (by omega) (by have := hS.size; omega) ?_
            intro v7 w7 own7 gr7 _
            obtain ⟨oa7, oc7, rfl⟩ := own_form own7
            have X7 : Blk w7 R #[.slice none 0 0, .int .i64 0] 34 := (gr7.block R (by have := hS.size; omega) (fun q => by have := (ROW.lt _ q.symm).1; omega)).trans (((XR.drew).alloc _).below b6)
            have hS7 := off_grownR hS gr7 (fun k hk => (ROW.lt k hk).1)
            refine hK.out _ _ hS7 (fun hS => ?_)
            clear hK
            refine wpAnyH_take (i := 9) (v := (.agg #[(.slice oa7 (B.os.length + 1) oc7), .int .i64 (B.nx + 1)])) rfl (by kernel_rfl) (by kernel_rfl) (by kernel_rfl) (fun _ _ _ h => h) (Or.inl ⟨by rfl, fun wx hS => by go_simp⟩) hS ?_
            obtain ⟨W9, hW9, X9, _⟩ := setRow_named X7 #[(.slice oa7 (B.os.length + 1) oc7), .int .i64 (B.nx + 1)]
            refine wpAnyH_ready (rs := [10]) (by kernel_rfl) (by simp) ?_
            refine readyH_rowC 10 rfl (ty := 34) (x := .tmp 4) (y := .tmp 43) rfl rfl rfl R #[(.slice oa7 (B.os.length + 1) oc7), .int .i64 (B.nx + 1)] (by kernel_rfl) (by kernel_rfl) 34 #[.slice none 0 0, .int .i64 0] X7 (infoBk2 _ _) rfl (oneBk2 _ _ _ _) (hS.setRow _) (fun hS => ?_)
            refine wpAnyH_ready (rs := [11]) (by kernel_rfl) (by simp) ?_
            refine AllReadyH.cons rfl (fun K hK => ?_) AllReadyH.nil
            go_simp
            try rw [hW9] at hS
            refine hK.out _ _ hS (fun hS => ?_)
            clear hK
            refine wpAnyH_done (by kernel_rfl) ?_ _
            try rw [hW9]
            go_wp2
            refine bodyPost_ret (v := .tuple #[.agg #[(.slice oa7 (B.os.length + 1) oc7), .int .i64 (B.nx + 1)], .int .i64 0]) (refPut_results X9 rfl rfl) rfl ?_
            have hb9 : Below w.heap.size w W9 := by
              have h7 := hS7.below hR2 hbR (by omega)
              exact below_row h7 hW9 hR2
            refine ⟨(.slice oa7 (B.os.length + 1) oc7), rfl, ?_, hb9, fun k hk => Or.inr (by have := own7.lt k hk; have e9 := row_size hW9; omega)⟩
            exact ods_rowW hW9 (ods_own (by rw [← odL_snocO] at own7; exact len_snoc own7)) own7 (by omega)
    · have dp : (o.pl != 0) = true := by simp [hp]
      rw [if_pos (Or.inr hp)] at hr
      subst hr
      clear hmb hp
      go_enter Try.func35, Try.ntmps35
      go_wp2_with fail
      refine Calls.mono HRT.out ?_
      rintro e w4 ⟨rfl, g4⟩
      have b4 := g4.below
      have y0' := keepY b4 y0
      have y1' := keepY b4 y1
      have x4' := keepY b4 x4
      have hzz := HZ.out
      clear y0 y1 x0 x1 x2 x3 x4 x5
      have XX : Blk _ (w.heap.size + 2) #[.slice none 0 0, .int .i64 0] 34 := Blk.below HX3.out b4
      have ON9 : (#[lv, .int .i64 B.nx] : Array Value).all (·.oneCell') = true := oneBkO (w := w) (l := B.os) HL.out _
      obtain ⟨W9, hW9, X9, _⟩ := setRow_named XX #[lv, .int .i64 B.nx]
      go_wp2_with ((with_reducible refine st_row (ty := 34) XX (infoBk2 _ _) (sameBk2 _ _ _ _) ON9 hW9 ?_ ?_ ?_); kernel_rfl; kernel_rfl)
      refine bodyPost_ret (v := .tuple #[.agg #[lv, .int .i64 B.nx], .int .i64 1]) (refPut_results X9 rfl rfl) rfl ?_
      have hb9 := below_row (Below.trans HB.out (b4.mono (by omega))) hW9 (by omega)
      exact ⟨lv, rfl, Ods.below HL.out hb9, hb9, fun k hk => Or.inl hk⟩
set_option maxHeartbeats 8000000 in
set_option maxRecDepth 100000 in
theorem refCancel_calls (lv : Value) (x y : Int) (B : Bo) (hI : BInv B) (w : World) (h : Ods w lv B.os) (r : Int × Bo) (hr : B.cancel x y = r) :
    Calls Try.prog 32 #[.agg #[lv, .int .i64 B.nx], .int .i64 x, .int .i64 y] w (RefP lv w r) := by
  have hlen := hI.len
  obtain ⟨W1, hW1, X1, B1, Z1⟩ : ∃ W1, w.alloc (.cells #[lv, .int .i64 B.nx] 34) = W1 ∧ Blk W1 w.heap.size #[lv, .int .i64 B.nx] 34 ∧ Below w.heap.size w W1 ∧ W1.heap.size = w.heap.size + 1 := ⟨_, rfl, blk_new _ _ _ _ rfl, by go_grown, by simp⟩
  obtain ⟨W3, hW3, X3, B3, Z3⟩ : ∃ W3, W1.alloc (.cells #[.slice none 0 0, .int .i64 0] 34) = W3 ∧ Blk W3 (w.heap.size + 1) #[.slice none 0 0, .int .i64 0] 34 ∧ Below W1.heap.size W1 W3 ∧ W3.heap.size = w.heap.size + 2 := ⟨_, rfl, blk_new _ _ _ _ (by omega), by go_grown, by simp; omega⟩
  have Y1 : Blk W3 w.heap.size #[lv, .int .i64 B.nx] 34 := X1.below B3
  have B13 : Below w.heap.size w W3 := B1.trans (B3.mono (by omega))
  have HX3 : Hid _ := X3
  have HB : Hid _ := B13
  have HZ : Hid (W3.heap.size = w.heap.size + 2) := Z3
  have HL : Hid _ := h
  have y0 : W3.cell? ⟨w.heap.size, 0, none⟩ = some lv := Y1.cell rfl
  have y1 : W3.cell? ⟨w.heap.size, 1, none⟩ = some (.int .i64 B.nx) := Y1.cell rfl
  have HOW : Hid _ := refOwn_calls lv B.os B.nx x y W3 (Ods.below h B13) (by omega)
  have HY1 : Hid _ := Y1
  clear X1 X3 B1 B3 B13 Z3 h hI Y1
  unfold Bo.cancel at hr
  rcases fnd_cases B.os x with ⟨f1, _⟩ | ⟨i, o, f1, f2, f3, f4⟩
  · rw [if_pos (by rw [f1]; decide)] at hr
    have e1 : ownR B.os x y = (0, 3) := by unfold ownR; rw [if_pos (by rw [f1]; decide)]
    rw [e1] at HOW
    subst hr
    clear f1 e1
    go_enter Try.func32, Try.ntmps32
    go_wp2_with fail
    refine Calls.mono HOW.out ?_
    rintro e w4 ⟨rfl, b4⟩
    have y0' := keepY b4 y0
    have y1' := keepY b4 y1
    have hzz := HZ.out
    clear y0 y1
    have XX : Blk _ (w.heap.size + 1) #[.slice none 0 0, .int .i64 0] 34 := Blk.below HX3.out b4
    have ON9 : (#[lv, .int .i64 B.nx] : Array Value).all (·.oneCell') = true := oneBkO (w := w) (l := B.os) HL.out _
    obtain ⟨W9, hW9, X9, _⟩ := setRow_named XX #[lv, .int .i64 B.nx]
    go_wp2_with ((with_reducible refine st_row (ty := 34) XX (infoBk2 _ _) (sameBk2 _ _ _ _) ON9 hW9 ?_ ?_ ?_); kernel_rfl; kernel_rfl)
    refine bodyPost_ret (v := .tuple #[.agg #[lv, .int .i64 B.nx], .int .i64 3]) (refCancel_results X9 rfl rfl) rfl ?_
    have hb9 := below_row (Below.trans HB.out (b4.mono (by omega))) hW9 (by omega)
    exact ⟨lv, rfl, Ods.below HL.out hb9, hb9, fun k hk => Or.inl hk⟩
  · rw [if_neg (by rw [f1]; omega), gtB_some f1 f2 f3, f1] at hr
    by_cases hy : o.own = y
    · rw [if_pos hy] at hr
      have e1 : ownR B.os x y = ((i : Int), 0) := by unfold ownR; rw [if_neg (by rw [f1]; omega), gtB_some f1 f2 f3, if_pos hy, f1]
      rw [e1] at HOW
      have HWO : Hid (∀ wx, Ods wx lv B.os → Calls Try.prog 52 #[lv, .int .i64 i] wx fun e w' => ∃ v', e = .returned v' ∧ w'.ownsRow wx.heap.size 28 6 v' (B.os.eraseIdx i).length (odL (B.os.eraseIdx i)) ∧ Below wx.heap.size wx w') := fun wx hx => by
        have := without_calls lv B.os i wx hx (by omega)
        rw [wo_nat] at this
        exact this
      have HR2 : Hid (r = (0, B.rem i)) := by show _ = _; rw [← hr, Int.toNat_natCast]
      rw [HR2.out]
      clear f1 f2 f3 f4 e1 hy hr
      go_enter Try.func32, Try.ntmps32
      go_wp2_with fail
      refine Calls.mono HOW.out ?_
      rintro e WR ⟨rfl, b4⟩
      have hzz := HZ.out
      have z4 := b4.size
      have hbR : Below w.heap.size w WR := Below.trans HB.out (b4.mono (by omega))
      have XB6 := Blk.below HY1.out b4
      have XR0 := Blk.below HX3.out b4
      have HLR : Hid _ := Ods.below HL.out hbR
      obtain ⟨R, hR⟩ : ∃ R, w.heap.size + 1 = R := ⟨_, rfl⟩
      have hR0 : w.heap.size ≠ R := by omega
      have hR2 : w.heap.size ≤ R := by omega
      have XR : Blk WR R #[.slice none 0 0, .int .i64 0] 34 := by rw [← hR]; exact XR0
      have HC0 : Hid (∀ wx, Off R WR wx → wx.cell? ⟨w.heap.size, 0, none⟩ = some lv) := fun wx hx => keepO hx (XB6.cell rfl) hR0
      have HC1 : Hid (∀ wx, Off R WR wx → wx.cell? ⟨w.heap.size, 1, none⟩ = some (.int .i64 B.nx)) := fun wx hx => keepO hx (XB6.cell rfl) hR0
      go_wp2_with fail
      try rw [hR]
      clear hR hW1 hW3 XR0 XB6 b4 y0 y1
      refine wp_region_held_drew (S := (fun wx => Off R WR wx)) (by kernel_rfl) (Off.drew (Off.refl _ _)) (fun hS => ?_)
      refine wpAnyH_take (i := 0) (v := (.pointer (some ⟨w.heap.size, 0, none⟩))) rfl (by kernel_rfl) (by kernel_rfl) (by kernel_rfl) (fun _ _ _ h => h) (Or.inl ⟨by rfl, fun wx hS => by go_simp⟩) hS ?_
      refine wpAnyH_take (i := 1) (v := lv) rfl (by kernel_rfl) (by kernel_rfl) (by kernel_rfl) (fun _ _ _ h => h) (Or.inl ⟨by rfl, fun wx hS => by have s0 := HC0.out wx hS; go_simp⟩) hS ?_
      refine wpAnyH_take (i := 2) (v := (.int .i64 i)) rfl (by kernel_rfl) (by kernel_rfl) (by kernel_rfl) (fun _ _ _ h => h) (Or.inl ⟨by rfl, fun wx hS => by go_simp⟩) hS ?_
      refine wpAnyH_take (i := 4) (v := (.pointer (some ⟨w.heap.size, 1, none⟩))) rfl (by kernel_rfl) (by kernel_rfl) (by kernel_rfl) (fun _ _ _ h => h) (Or.inl ⟨by rfl, fun wx hS => by go_simp⟩) hS ?_
      refine wpAnyH_take (i := 5) (v := (.int .i64 B.nx)) rfl (by kernel_rfl) (by kernel_rfl) (by kernel_rfl) (fun _ _ _ h => h) (Or.inl ⟨by rfl, fun wx hS => by have s0 := HC1.out wx hS; go_simp⟩) hS ?_
      refine wpAnyH_ready (rs := [3]) (by kernel_rfl) (by simp) ?_
      refine AllReadyH.cons rfl (fun K hK => ?_) AllReadyH.nil
      go_simp
      refine Calls.mono (HWO.out _ (Ods.below HLR.out ((Below.refl _ _).drew))) ?_
      rintro e6 w6 ⟨v6, rfl, own6, b6⟩
      obtain ⟨oa6, oc6, rfl⟩ := own_form own6
      refine hK.out _ _ (hS.trans (Off.of_below b6)) (fun hS => ?_)
      clear hK
      have X7 := (XR.drew).below b6
      refine wpAnyH_take (i := 6) (v := (.agg #[(.slice oa6 (B.os.eraseIdx i).length oc6), .int .i64 B.nx])) rfl (by kernel_rfl) (by kernel_rfl) (by kernel_rfl) (fun _ _ _ h => h) (Or.inl ⟨by rfl, fun wx hS => by go_simp⟩) hS ?_
      obtain ⟨W9, hW9, X9, _⟩ := setRow_named X7 #[(.slice oa6 (B.os.eraseIdx i).length oc6), .int .i64 B.nx]
      refine wpAnyH_ready (rs := [7]) (by kernel_rfl) (by simp) ?_
      refine readyH_rowC 7 rfl (ty := 34) (x := .tmp 6) (y := .tmp 27) rfl rfl rfl R #[(.slice oa6 (B.os.eraseIdx i).length oc6), .int .i64 B.nx] (by kernel_rfl) (by kernel_rfl) 34 #[.slice none 0 0, .int .i64 0] X7 (infoBk2 _ _) rfl (oneBk2 _ _ _ _) (hS.setRow _) (fun hS => ?_)
      refine wpAnyH_ready (rs := [8]) (by kernel_rfl) (by simp) ?_
      refine AllReadyH.cons rfl (fun K hK => ?_) AllReadyH.nil
      go_simp
      try rw [hW9] at hS
      refine hK.out _ _ hS (fun hS => ?_)
      clear hK
      refine wpAnyH_done (by kernel_rfl) ?_ _
      try rw [hW9]
      go_wp2
      refine bodyPost_ret (v := .tuple #[.agg #[(.slice oa6 (B.os.eraseIdx i).length oc6), .int .i64 B.nx], .int .i64 0]) (refCancel_results X9 rfl rfl) rfl ?_
      have hb9 : Below w.heap.size w W9 := below_row (hbR.trans (((Below.refl WR.heap.size WR).drew.trans b6).mono hbR.size)) hW9 hR2
      have hlt : w.heap.size ≤ WR.drew.heap.size := hbR.size
      have hR4 : R < WR.drew.heap.size := XR.lt
      exact ⟨(.slice oa6 (B.os.eraseIdx i).length oc6), rfl, ods_rowW hW9 (ods_own own6) own6 hR4, hb9, fun k hk => Or.inr (by have := own6.lt k hk; have e9 := row_size hW9; have e8 : WR.drew.heap.size = WR.heap.size := rfl; omega)⟩
    · rw [if_neg hy] at hr
      have e1 : ownR B.os x y = (0, 80) := by unfold ownR; rw [if_neg (by rw [f1]; omega), gtB_some f1 f2 f3, if_neg hy]
      rw [e1] at HOW
      subst hr
      clear f1 f2 f3 f4 e1 hy
      go_enter Try.func32, Try.ntmps32
      go_wp2_with fail
      refine Calls.mono HOW.out ?_
      rintro e w4 ⟨rfl, b4⟩
      have y0' := keepY b4 y0
      have y1' := keepY b4 y1
      have hzz := HZ.out
      clear y0 y1
      have XX : Blk _ (w.heap.size + 1) #[.slice none 0 0, .int .i64 0] 34 := Blk.below HX3.out b4
      have ON9 : (#[lv, .int .i64 B.nx] : Array Value).all (·.oneCell') = true := oneBkO (w := w) (l := B.os) HL.out _
      obtain ⟨W9, hW9, X9, _⟩ := setRow_named XX #[lv, .int .i64 B.nx]
      go_wp2_with ((with_reducible refine st_row (ty := 34) XX (infoBk2 _ _) (sameBk2 _ _ _ _) ON9 hW9 ?_ ?_ ?_); kernel_rfl; kernel_rfl)
      refine bodyPost_ret (v := .tuple #[.agg #[lv, .int .i64 B.nx], .int .i64 80]) (refCancel_results X9 rfl rfl) rfl ?_
      have hb9 := below_row (Below.trans HB.out (b4.mono (by omega))) hW9 (by omega)
      exact ⟨lv, rfl, Ods.below HL.out hb9, hb9, fun k hk => Or.inl hk⟩
end Go.Proofs.Ytlhfdgeknpmdfaa

namespace Go.Proofs.Ytlhfdgeknpmdfaa
open Go.RowKit
set_option linter.unusedSimpArgs false
set_option linter.unusedVariables false

/-- The first k orders behind a clearing. -/
def clK (l : List Od) (fs : List Fi) (k : Nat) : List Od := ((l.take k).map fun o => o.setAm (o.am - got fs o.id)).filter fun o => !(o.am == 0)
theorem clK_zero (l : List Od) (fs : List Fi) : clK l fs 0 = [] := rfl
theorem clK_succ {l : List Od} {fs : List Fi} {k : Nat} {o : Od} (h : l[k]? = some o) : clK l fs (k + 1) = if o.am - got fs o.id = 0 then clK l fs k else clK l fs k ++ [o.setAm (o.am - got fs o.id)] := by
  obtain ⟨hk, he⟩ := List.getElem?_eq_some_iff.1 h
  unfold clK
  rw [List.take_succ_eq_append_getElem hk, he, List.map_append, List.filter_append]
  split
  · rename_i e
    have : (o.setAm (o.am - got fs o.id)).am = 0 := e
    simp [this]
  · rename_i e
    have : ¬ (o.setAm (o.am - got fs o.id)).am = 0 := e
    simp [this]
theorem clK_len (l : List Od) (fs : List Fi) (k : Nat) : (clK l fs k).length ≤ k := by
  unfold clK
  refine Nat.le_trans (List.length_filter_le ..) ?_
  rw [List.length_map, List.length_take]; omega
theorem got_next {fs : List Fi} {k : Nat} {f : Fi} (h : fs[k]? = some f) (x : Int) : got (fs.take (k + 1)) x = got (fs.take k) x + if f.1 = x then f.2.2 else 0 := by
  obtain ⟨hk, he⟩ := List.getElem?_eq_some_iff.1 h
  rw [List.take_succ_eq_append_getElem hk, he, got_app]
  simp [got]
theorem refClear_results {w' : World} {c0 c1 v3 v4 v5 : Value} {r : Nat} (X : Blk w' r #[c0, c1] 34) {t : Array Value} (h1 : t.getD 2 undef = .pointer (some ⟨r, 0, none⟩)) (h3 : t.getD 3 undef = v3) (h4 : t.getD 4 undef = v4) (h5 : t.getD 5 undef = v5) :
    (results Try.f33 t).run Try.prog w' = .ok (.tuple #[.agg #[c0, c1], v3, v4, v5]) w' := by
  have a0 := X.cell (o := 0) rfl
  have a1 := X.cell (o := 1) rfl
  simp only [Array.getD_eq_getD_getElem?] at h1 h3 h4 h5
  simp [results, Try.results33, go_sem, h1, h3, h4, h5, a0, a1]
/-- What the document's Clear answers. -/
def RefC (B : Bo) (w : World) (e : Ending) (w' : World) : Prop := ∃ lv' vf, e = .returned (.tuple #[.agg #[lv', .int .i64 B.nx], .int .i64 (crs B.os).1, .int .i64 (crs B.os).2, vf]) ∧ w'.ownsRow w.heap.size 28 6 lv' B.clr.os.length (odL B.clr.os) ∧ w'.ownsRow w.heap.size 84 3 vf B.fl.length (fiL B.fl) ∧ Below w.heap.size w w'
set_option maxHeartbeats 8000000 in
set_option maxRecDepth 100000 in
theorem refClear_calls (lv : Value) (B : Bo) (hI : BInv B) (w : World) (h : Ods w lv B.os) : Calls Try.prog 33 #[.agg #[lv, .int .i64 B.nx]] w (RefC B w) := by
  obtain ⟨i6, hi6, hy0, hy1, hy2⟩ := info_parts infoOd6
  have hlen := hI.len
  have HI : Hid _ := hI
  obtain ⟨W1, hW1, X1, B1, Z1⟩ : ∃ W1, w.alloc (.cells #[lv, .int .i64 B.nx] 34) = W1 ∧ Blk W1 w.heap.size #[lv, .int .i64 B.nx] 34 ∧ Below w.heap.size w W1 ∧ W1.heap.size = w.heap.size + 1 := ⟨_, rfl, blk_new _ _ _ _ rfl, by go_grown, by simp⟩
  obtain ⟨W3, hW3, X3, B3, Z3⟩ : ∃ W3, W1.alloc (.cells #[.slice none 0 0, .int .i64 0] 34) = W3 ∧ Blk W3 (w.heap.size + 1) #[.slice none 0 0, .int .i64 0] 34 ∧ Below W1.heap.size W1 W3 ∧ W3.heap.size = w.heap.size + 2 := ⟨_, rfl, blk_new _ _ _ _ (by omega), by go_grown, by simp; omega⟩
  have Y1 : Blk W3 w.heap.size #[lv, .int .i64 B.nx] 34 := X1.below B3
  have B13 : Below w.heap.size w W3 := B1.trans (B3.mono (by omega))
  have y0 : W3.cell? ⟨w.heap.size, 0, none⟩ = some lv := Y1.cell rfl
  have O3 : Ods W3 lv B.os := Ods.below h B13
  have HCR : Hid _ := refCross_calls lv B.os W3 O3
  have HFI : Hid (∀ wx, Below W3.heap.size W3 wx → Calls Try.prog 54 #[lv, .int .i64 (crs B.os).1, .int .i64 (crs B.os).2] wx fun e w' => ∃ v', e = .returned v' ∧ w'.ownsRow wx.heap.size 84 3 v' B.fl.length (fiL B.fl) ∧ Below wx.heap.size wx w') := fun wx hb => refFills_calls lv B.os _ _ wx (O3.below hb) (by have := crs_amt B.os; omega)
  have hfl : B.fl.length ≤ 200 := by
    have := fT_len B.os (crs B.os).1 (crs B.os).2 2 hlen
    rw [fT_end _ _ _ hlen] at this
    unfold Bo.fl; omega
  obtain ⟨la, lc, rfl, hcells⟩ := id O3
  have HCL : Hid _ := hcells
  have HCO : Hid (clK B.os B.fl B.os.length = B.clr.os) := by
    show _ = _
    rw [clr_os]; unfold clK; rw [List.take_length]
  have HGT : Hid (∀ o ∈ B.os, ∀ k, 0 ≤ got (B.fl.take k) o.id ∧ got (B.fl.take k) o.id ≤ o.am) := fun o ho k => got_take hI _ _ k ho
  have HAM : Hid (∀ o ∈ B.os, 1 ≤ o.am ∧ o.am ≤ 1048576) := fun o ho => may_am (hI.may o ho)
  have HFN : Hid (∀ f ∈ B.fl, 0 ≤ f.2.2 ∧ f.2.2 ≤ 1048576) := fun f hf => by
    obtain ⟨q, hq, _, _, k3, k4⟩ := fills_mem hI hf
    have := may_am (hI.may q hq)
    omega
  have HX3 : Hid _ := X3
  have HY1 : Hid _ := Y1
  have HB13 : Hid _ := B13
  have HZ3 : Hid _ := Z3
  obtain ⟨cp, HCP⟩ : ∃ cp, Hid ((crs B.os).1 = cp) := ⟨_, rfl⟩
  obtain ⟨cn, HCN⟩ : ∃ cn, Hid ((crs B.os).2 = cn) := ⟨_, rfl⟩
  rw [HCP.out, HCN.out] at HCR HFI
  unfold RefC
  rw [HCP.out, HCN.out]
  obtain ⟨fs, HFS⟩ : ∃ fs, Hid (B.fl = fs) := ⟨_, rfl⟩
  rw [HFS.out] at HFI hfl HCO HGT HFN ⊢
  clear h hI X1 X3 Y1 B1 B3 B13 O3 hcells Z3
  go_enter Try.func33, Try.ntmps33
  go_wp2_with fail
  refine Calls.mono HCR.out ?_
  rintro e w4 ⟨rfl, b4⟩
  have y0' := keepY b4 y0
  clear y0
  go_wp2_with fail
  refine Calls.mono (HFI.out _ b4) ?_
  rintro e w5 ⟨vf, rfl, own5, b5⟩
  have z4 := b4.size
  have z5 := b5.size
  have hzz := HZ3.out
  have b35 : Below W3.heap.size W3 w5 := b4.trans (b5.mono z4)
  have HB5 : Hid (Below w.heap.size w w5) := HB13.out.trans (b35.mono (by omega))
  obtain ⟨fa, fc, rfl⟩ := own_form own5
  have HO5 : Hid _ := own5
  have HYB : Hid (Blk w5 w.heap.size _ 34) := Blk.below HY1.out b35
  have HXR : Hid (Blk w5 (w.heap.size + 1) _ 34) := Blk.below HX3.out b35
  have hb5 : w.heap.size + 2 ≤ w5.heap.size := by omega
  have hb4 : w.heap.size + 2 ≤ w4.heap.size := by omega
  have HC5 : Hid (∀ (k : Nat) (o : Od), B.os[k]? = some o → ∃ g off, la = some ⟨g, off, none⟩ ∧ ∀ j u, (oC o)[j]? = some u → w5.cell? ⟨g, off + k * 6 + j, none⟩ = some u) := fun k o ho => by
    rcases HCL.out with h0 | ⟨g, off, e, hx⟩
    · rw [h0] at ho; simp at ho
    · exact ⟨g, off, e, fun j u hu => keepY b35 (hx k o j u ho hu)⟩
  have HF5 : Hid (∀ (k : Nat) (f : Fi), fs[k]? = some f → ∃ g, fa = some ⟨g, 0, none⟩ ∧ ∀ j u, (fC f)[j]? = some u → w5.cell? ⟨g, k * 3 + j, none⟩ = some u) := fun k f hf => by
    rcases (HO5.out).2 with ⟨q, q2⟩ | ⟨g, cap, cur, q, _⟩
    · exfalso
      have := (List.getElem?_eq_some_iff.1 hf).1
      omega
    · injection q with q1 _ _
      refine ⟨g, q1, fun j u hu => ?_⟩
      have q := World.ownsRow.cells HO5.out (g := g) (by rw [q1]; rfl) (k * 3 + j) u (fiL_get _ k j f u hf hu)
      rw [Addr.add_lit, Nat.zero_add] at q
      exact q
  clear own5 b35 b4 b5 y0' z4 z5 HCL HX3 HY1 hzz HZ3 HB13
  go_wp2_with fail
  go_loopw [9, 10] (fun o i wr => ∃ k : Nat, k ≤ B.os.length ∧ i = .int .i64 k ∧ Hid (wr.ownsRow w5.heap.size 28 6 o (clK B.os fs k).length (odL (clK B.os fs k)) ∧ Below w5.heap.size w5 wr)) (fun _ i _ => B.os.length - (intOf i).toNat)
  case atStart => exact ⟨0, Nat.zero_le _, rfl, by rw [clK_zero]; exact World.ownsRow_nil _ _ _ _, Below.refl _ _⟩
  case round =>
    obtain ⟨k, hk, rfl, HR⟩ := hrel
    obtain ⟨wa, rfl⟩ : ∃ wa, wa = wr := ⟨wr, rfl⟩
    have HYa : Hid (Blk wa w.heap.size _ 34) := Blk.below HYB.out HR.out.2
    have ya0 : wa.cell? ⟨w.heap.size, 0, none⟩ = some (.slice la B.os.length lc) := Blk.cell HYa.out rfl
    have ya1 : wa.cell? ⟨w.heap.size, 1, none⟩ = some (.int .i64 B.nx) := Blk.cell HYa.out rfl
    have za := HR.out.2.size
    by_cases hlt : k < B.os.length
    · have hd : decide ((k : Int) < (B.os.length : Int)) = true := by simp only [decide_eq_true_eq]; omega
      have hd' : (k : Int) < (B.os.length : Int) := by omega
      obtain ⟨o, ho⟩ : ∃ o, B.os[k]? = some o := ⟨B.os[k], by simp [hlt]⟩
      have hom := List.mem_of_getElem? ho
      obtain ⟨g, off, rfl, hx⟩ := HC5.out k o ho
      have m0 : wa.cell? ⟨g, off + k * 6, none⟩ = some (.int .i64 o.id) := keepY HR.out.2 (hx 0 _ rfl)
      have m1 : wa.cell? ⟨g, off + k * 6 + 1, none⟩ = some (.int .i64 o.own) := keepY HR.out.2 (hx 1 _ rfl)
      have m2 : wa.cell? ⟨g, off + k * 6 + 2, none⟩ = some (.int .i64 o.pr) := keepY HR.out.2 (hx 2 _ rfl)
      have m3 : wa.cell? ⟨g, off + k * 6 + 3, none⟩ = some (.int .i64 o.am) := keepY HR.out.2 (hx 3 _ rfl)
      have m4 : wa.cell? ⟨g, off + k * 6 + 4, none⟩ = some (.int .i64 o.pl) := keepY HR.out.2 (hx 4 _ rfl)
      have m5 : wa.cell? ⟨g, off + k * 6 + 5, none⟩ = some (.bool o.by) := keepY HR.out.2 (hx 5 _ rfl)
      have HSU : Hid _ := clK_succ (fs := fs) ho
      have HG : Hid (∀ k, 0 ≤ got (fs.take k) o.id ∧ got (fs.take k) o.id ≤ o.am) := HGT.out o hom
      have ham := HAM.out o hom
      obtain ⟨q, hq⟩ : ∃ q, wa.heap.size = q := ⟨_, rfl⟩
      obtain ⟨W6, hW6, X6, B6⟩ : ∃ W6, wa.alloc (.cells #[.int .i64 o.id, .int .i64 o.own, .int .i64 o.pr, .int .i64 o.am, .int .i64 o.pl, .bool o.by] 28) = W6 ∧ Blk W6 q #[.int .i64 o.id, .int .i64 o.own, .int .i64 o.pr, .int .i64 o.am, .int .i64 o.pl, .bool o.by] 28 ∧ Below wa.heap.size wa W6 := ⟨_, rfl, blk_new _ _ _ _ hq.symm, by go_grown⟩
      have HX6 : Hid _ := X6
      have HB6 : Hid _ := B6
      have hqw : w5.heap.size ≤ q := by omega
      obtain ⟨oa, oc, rfl⟩ := own_form HR.out.1
      have hgA := HG.out fs.length
      rw [List.take_length] at hgA
      clear ho hom hx X6 B6
      go_wp2_with fail
      clear hW6 m0 m1 m2 m3 m4 m5 ya0 ya1
      go_loopw [12] (fun i wx => ∃ j : Nat, j ≤ fs.length ∧ i = .int .i64 j ∧ Hid (Blk wx q #[.int .i64 o.id, .int .i64 o.own, .int .i64 o.pr, .int .i64 (o.am - got (fs.take j) o.id), .int .i64 o.pl, .bool o.by] 28 ∧ Below wa.heap.size wa wx)) (fun i _ => fs.length - (intOf i).toNat)
      case atStart => exact ⟨0, Nat.zero_le _, rfl, by have e0 : o.am - got (fs.take 0) o.id = o.am := by simp [got]
                                                       rw [e0]; exact HX6.out, HB6.out⟩
      case round =>
        obtain ⟨j, hj, rfl, HJ⟩ := hrel
        have XJ : Blk wr q #[.int .i64 o.id, .int .i64 o.own, .int .i64 o.pr, .int .i64 (o.am - got (fs.take j) o.id), .int .i64 o.pl, .bool o.by] 28 := HJ.out.1
        have hgj := HG.out j
        by_cases hj2 : j < fs.length
        · have hd2 : decide ((j : Int) < (fs.length : Int)) = true := by simp only [decide_eq_true_eq]; omega
          have hd2' : (j : Int) < (fs.length : Int) := by omega
          obtain ⟨f, hf⟩ : ∃ f, fs[j]? = some f := ⟨fs[j], by simp [hj2]⟩
          obtain ⟨g2, rfl, hx2⟩ := HF5.out j f hf
          have n0 : wr.cell? ⟨g2, j * 3, none⟩ = some (.int .i64 f.1) := keepY HJ.out.2 (keepY HR.out.2 (hx2 0 _ rfl))
          have n2 : wr.cell? ⟨g2, j * 3 + 2, none⟩ = some (.int .i64 f.2.2) := keepY HJ.out.2 (keepY HR.out.2 (hx2 2 _ rfl))
          have x0 : wr.cell? ⟨q, 0, none⟩ = some (.int .i64 o.id) := XJ.cell rfl
          have x3 : wr.cell? ⟨q, 3, none⟩ = some (.int .i64 (o.am - got (fs.take j) o.id)) := XJ.cell rfl
          have f3 : wr.frozen? ⟨q, 3, none⟩ = false := XJ.frozen
          have HGN : Hid _ := got_next hf o.id
          have hfn := HFN.out f (List.mem_of_getElem? hf)
          have HXJ : Hid _ := XJ
          have HBJ : Hid _ := HJ.out.2
          clear hx2 hf XJ HJ
          by_cases hid : f.1 = o.id
          · have d1 : (f.1 == o.id) = true := by simpa using hid
            have HGE : Hid (o.am - got (fs.take (j + 1)) o.id = o.am - got (fs.take j) o.id - f.2.2) := by show _ = _; rw [HGN.out, if_pos hid]; omega
            have hw1 : IntKind.i64.wrap (o.am - got (fs.take j) o.id - f.2.2) = o.am - got (fs.take j) o.id - f.2.2 := by rw [IntKind.wrap_i64]; omega
            clear hid HGN
            generalize o.am - got (fs.take j) o.id = m at *
            generalize f.2.2 = n at *
            generalize f.1 = fi at *
            have HBN : Hid (Blk (wr.drew.drew.setCell ⟨q, 3, none⟩ (.int .i64 (m - n))) q #[.int .i64 o.id, .int .i64 o.own, .int .i64 o.pr, .int .i64 (m - n), .int .i64 o.pl, .bool o.by] 28 ∧ Below wa.heap.size wa (wr.drew.drew.setCell ⟨q, 3, none⟩ (.int .i64 (m - n)))) := by
              refine ⟨(Blk.drew (Blk.drew HXJ.out)).set 3 _, ?_⟩
              exact (Off.setCell (Off.refl q _) (p := ⟨q, 3, none⟩) rfl _).below (by omega) (Below.drew (Below.drew HBJ.out)) (by have := Below.size HBJ.out; exact this)
            clear HXJ
            go_wp2_with fail
            go_region
            go_wp2_with fail
            go_region
            go_wp2_with fail
            refine ⟨⟨j + 1, by omega, by norm_cast, ?_⟩, by simp [intOf]; omega⟩
            rw [HGE.out]; exact HBN.out
          · have d1 : (f.1 == o.id) = false := by simpa using hid
            have HGE : Hid (o.am - got (fs.take (j + 1)) o.id = o.am - got (fs.take j) o.id) := by show _ = _; rw [HGN.out, if_neg hid]; omega
            clear hid HGN
            generalize o.am - got (fs.take j) o.id = m at *
            generalize f.1 = fi at *
            have HBN : Hid (Blk wr.drew q #[.int .i64 o.id, .int .i64 o.own, .int .i64 o.pr, .int .i64 m, .int .i64 o.pl, .bool o.by] 28 ∧ Below wa.heap.size wa wr.drew) := ⟨Blk.drew HXJ.out, Below.drew HBJ.out⟩
            clear HXJ
            go_wp2_with fail
            go_region
            go_wp2_with fail
            refine ⟨⟨j + 1, by omega, by norm_cast, ?_⟩, by simp [intOf]; omega⟩
            rw [HGE.out]; exact HBN.out
        · have hd2 : decide ((j : Int) < (fs.length : Int)) = false := by simp only [decide_eq_false_iff_not]; omega
          have hd2' : ¬ (j : Int) < (fs.length : Int) := by omega
          obtain rfl : j = fs.length := by omega
          rw [List.take_length] at XJ hgj
          have HBJ : Hid _ := HJ.out.2
          have hn0 : 0 ≤ o.am - got fs o.id := by omega
          have hcl := clK_len B.os fs k
          obtain ⟨m, HM⟩ : ∃ m, Hid (o.am - got fs o.id = m) := ⟨_, rfl⟩
          rw [HM.out] at XJ hn0 HSU
          have HSM : Hid (oC (o.setAm m) = [.int .i64 o.id, .int .i64 o.own, .int .i64 o.pr, .int .i64 m, .int .i64 o.pl, .bool o.by]) := rfl
          have x0 : wr.cell? ⟨q, 0, none⟩ = some (.int .i64 o.id) := XJ.cell rfl
          have x1 : wr.cell? ⟨q, 1, none⟩ = some (.int .i64 o.own) := XJ.cell rfl
          have x2 : wr.cell? ⟨q, 2, none⟩ = some (.int .i64 o.pr) := XJ.cell rfl
          have x3 : wr.cell? ⟨q, 3, none⟩ = some (.int .i64 m) := XJ.cell rfl
          have x4 : wr.cell? ⟨q, 4, none⟩ = some (.int .i64 o.pl) := XJ.cell rfl
          have x5 : wr.cell? ⟨q, 5, none⟩ = some (.bool o.by) := XJ.cell rfl
          have hB5r : Below w5.heap.size w5 wr := HR.out.2.trans (Below.mono HBJ.out za)
          have HBW : Hid _ := hB5r
          have HRO : Hid _ := ownB HR.out.1 HBJ.out
          have zr := hB5r.size
          clear XJ HJ hgj hB5r hgA
          by_cases hm0 : m = 0
          · have d0 : decide (0 < m) = false := decide_eq_false (by omega)
            have HS2 : Hid (clK B.os fs (k + 1) = clK B.os fs k) := by show _ = _; rw [HSU.out, if_pos hm0]
            clear hm0 hn0 x0 x1 x2 x4 x5
            go_wp2_with fail
            refine ⟨⟨k + 1, by omega, by norm_cast, ?_⟩, by simp [intOf]; omega⟩
            rw [HS2.out]; exact ⟨HRO.out, HBW.out⟩
          · have d0 : decide (0 < m) = true := decide_eq_true (by omega)
            have HS2 : Hid (clK B.os fs (k + 1) = clK B.os fs k ++ [o.setAm m]) := by show _ = _; rw [HSU.out, if_neg hm0]
            obtain ⟨W8, hW8, B8⟩ : ∃ W8, wr.alloc (.cells #[.int .i64 o.id, .int .i64 o.own, .int .i64 o.pr, .int .i64 m, .int .i64 o.pl, .bool o.by] 28) = W8 ∧ Below wr.heap.size wr W8 := ⟨_, rfl, by go_grown⟩
            have HN8 : Hid (∀ jj u, (oC (o.setAm m))[jj]? = some u → W8.cell? ((⟨wr.heap.size, 0, none⟩ : Addr).add jj) = some u) := by
              rw [← hW8]; exact six_new wr (o.setAm m) _
            have HO8 : Hid _ := ownB HRO.out B8
            have z8 := B8.size
            have HB8 : Hid _ := Below.trans HBW.out (B8.mono zr)
            clear hm0 hn0 B8
            go_wp2_with (at_builtin; refine wpList_append_own _ rfl _ _ 25 rfl w5.heap.size 28 i6 (.agg #[.int .i64 0, .int .i64 0, .int .i64 0, .int .i64 0, .int .i64 0, .bool false]) 6 48 Try.underlying25 hi6 hy0 hy1 hy2 rfl (by decide) _ _ _ rfl HO8.out ⟨wr.heap.size, 0, none⟩ 1 1 (oC (o.setAm m)) rfl rfl ?d1 ?d2 ?d3 ?d4 ?d5 ?_)
            case d1 => first | exact HN8.out | exact (fun jj u hu => by have hh := HN8.out jj u hu; rw [Addr.add_lit, Nat.zero_add] at hh; exact hh)
            case d2 => exact oC_oneO _
            case d3 => unfold maxLen; omega
            case d4 => omega
            case d5 => omega
            intro v' w7 own' gr' _
            have hb7 : Below w5.heap.size w5 w7 := below_grownU HB8.out gr' (fun q hq => (World.ownsRow.lt HO8.out q hq).1) (by omega)
            have HO7 : Hid (w7.ownsRow w5.heap.size 28 6 v' (clK B.os fs (k + 1)).length (odL (clK B.os fs (k + 1)))) := by
              rw [HS2.out, odL_snocO, List.length_append]; exact own'
            clear own' gr'
            go_wp2
            exact ⟨⟨k + 1, by omega, by norm_cast, HO7.out, hb7⟩, by simp [intOf]; omega⟩
    · have hd : decide ((k : Int) < (B.os.length : Int)) = false := by simp only [decide_eq_false_iff_not]; omega
      have hd' : ¬ (k : Int) < (B.os.length : Int) := by omega
      obtain rfl : k = B.os.length := by omega
      have hrow := HR.out.1
      rw [HCO.out] at hrow
      obtain ⟨oa, oc, rfl⟩ := own_form hrow
      have HROW : Hid _ := hrow
      have HBa : Hid (Below w.heap.size w wa) := Below.trans HB5.out (Below.mono HR.out.2 (by omega))
      have XRa : Blk wa (w.heap.size + 1) #[.slice none 0 0, .int .i64 0] 34 := Blk.below HXR.out HR.out.2
      have HOFa : Hid _ := ownB HO5.out HR.out.2
      obtain ⟨W9, hW9, X9, _⟩ := setRow_named XRa #[.slice oa B.clr.os.length oc, .int .i64 B.nx]
      clear HR hrow HF5 HC5
      go_wp2_with ((with_reducible refine st_row (ty := 34) XRa (infoBk2 _ _) (sameBk2 _ _ _ _) (oneBk2 _ _ _ _) hW9 ?_ ?_ ?_); kernel_rfl; kernel_rfl)
      refine bodyPost_ret (v := .tuple #[.agg #[.slice oa B.clr.os.length oc, .int .i64 B.nx], .int .i64 cp, .int .i64 cn, .slice fa fs.length fc]) (refClear_results X9 rfl rfl rfl rfl) rfl ?_
      have gs : wa.grownBy W9 (some (w.heap.size + 1)) := offBy (by rw [← hW9]; exact (Off.refl _ _).setRow _)
      refine ⟨_, _, rfl, ownsRow_weakO (World.ownsRow.kept HROW.out gs (Or.inr (fun e => by have := (World.ownsRow.lt HROW.out _ e).1; omega))) (by omega), ownsRow_weakO (World.ownsRow.kept HOFa.out gs (Or.inr (fun e => by have := (World.ownsRow.lt HOFa.out _ e).1; omega))) (by omega), below_row HBa.out hW9 (by omega)⟩
end Go.Proofs.Ytlhfdgeknpmdfaa

namespace Go.Proofs.Ytlhfdgeknpmdfaa
open Go.RowKit
set_option linter.unusedSimpArgs false
set_option linter.unusedVariables false
theorem refAmend_results {w' : World} {c0 c1 v : Value} {r : Nat} (X : Blk w' r #[c0, c1] 34) {t : Array Value} (h1 : t.getD 10 undef = .pointer (some ⟨r, 0, none⟩)) (h2 : t.getD 11 undef = v) :
    (results Try.f31 t).run Try.prog w' = .ok (.tuple #[.agg #[c0, c1], v]) w' := by
  have a0 := X.cell (o := 0) rfl
  have a1 := X.cell (o := 1) rfl
  simp only [Array.getD_eq_getD_getElem?] at h1 h2
  simp [results, Try.results31, go_sem, h1, h2, a0, a1]
theorem set_app6 {A : List Value} (hA : A.length = 6) (B : List Value) (k : Nat) (u : Value) : (A ++ B).set (k + 6) u = A ++ B.set k u := by
  rw [List.set_append_right _ _ (by omega), hA, show k + 6 - 6 = k by omega]
theorem odL_set6 : ∀ {X : List Od} {i : Nat} {o : Od} (q : Od), X[i]? = some o → ((((((odL X).set (i * 6) (.int .i64 q.id)).set (i * 6 + 1) (.int .i64 q.own)).set (i * 6 + 2) (.int .i64 q.pr)).set (i * 6 + 3) (.int .i64 q.am)).set (i * 6 + 4) (.int .i64 q.pl)).set (i * 6 + 5) (.bool q.by) = odL (X.set i q)
  | x :: X, 0, o, q, h => by
    rw [odL_cons, List.set_cons_zero, odL_cons]
    rfl
  | x :: X, i + 1, o, q, h => by
    have h' : X[i]? = some o := by simpa using h
    rw [odL_cons, List.set_cons_succ, odL_cons, show (i + 1) * 6 = i * 6 + 6 by omega, show i * 6 + 6 + 1 = i * 6 + 1 + 6 by omega, show i * 6 + 6 + 2 = i * 6 + 2 + 6 by omega, show i * 6 + 6 + 3 = i * 6 + 3 + 6 by omega, show i * 6 + 6 + 4 = i * 6 + 4 + 6 by omega, show i * 6 + 6 + 5 = i * 6 + 5 + 6 by omega]
    rw [set_app6 (oC_len x), set_app6 (oC_len x), set_app6 (oC_len x), set_app6 (oC_len x), set_app6 (oC_len x), set_app6 (oC_len x), odL_set6 q h']
set_option maxHeartbeats 8000000 in
set_option maxRecDepth 100000 in
theorem refAmend_calls (lv : Value) (x y pr am : Int) (B : Bo) (hI : BInv B) (w : World) (h : Ods w lv B.os) (r : Int × Bo) (hr : B.amend x y pr am = r) :
    Calls Try.prog 31 #[.agg #[lv, .int .i64 B.nx], .int .i64 x, .int .i64 y, .int .i64 pr, .int .i64 am] w (RefP lv w r) := by
  obtain ⟨i6, hi6, hy0, hy1, hy2⟩ := info_parts infoOd6
  have hlen := hI.len
  have hnx1 := hI.nx1
  have hnx2 := hI.nx2
  obtain ⟨W1, hW1, X1, B1, Z1⟩ : ∃ W1, w.alloc (.cells #[lv, .int .i64 B.nx] 34) = W1 ∧ Blk W1 w.heap.size #[lv, .int .i64 B.nx] 34 ∧ Below w.heap.size w W1 ∧ W1.heap.size = w.heap.size + 1 := ⟨_, rfl, blk_new _ _ _ _ rfl, by go_grown, by simp⟩
  obtain ⟨W3, hW3, X3, B3, Z3⟩ : ∃ W3, W1.alloc (.cells #[.slice none 0 0, .int .i64 0] 34) = W3 ∧ Blk W3 (w.heap.size + 1) #[.slice none 0 0, .int .i64 0] 34 ∧ Below W1.heap.size W1 W3 ∧ W3.heap.size = w.heap.size + 2 := ⟨_, rfl, blk_new _ _ _ _ (by omega), by go_grown, by simp; omega⟩
  have Y1 : Blk W3 w.heap.size #[lv, .int .i64 B.nx] 34 := X1.below B3
  have B13 : Below w.heap.size w W3 := B1.trans (B3.mono (by omega))
  have HX3 : Hid _ := X3
  have HB : Hid _ := B13
  have HZ : Hid (W3.heap.size = w.heap.size + 2) := Z3
  have HL : Hid _ := h
  have y0 : W3.cell? ⟨w.heap.size, 0, none⟩ = some lv := Y1.cell rfl
  have y1 : W3.cell? ⟨w.heap.size, 1, none⟩ = some (.int .i64 B.nx) := Y1.cell rfl
  have HOW : Hid _ := refOwn_calls lv B.os B.nx x y W3 (Ods.below h B13) (by omega)
  have HY1 : Hid _ := Y1
  clear X1 X3 B1 B3 B13 Z3 h hI Y1
  unfold Bo.amend at hr
  rcases fnd_cases B.os x with ⟨f1, _⟩ | ⟨i, o, f1, f2, f3, f4⟩
  · rw [if_pos (by rw [f1]; decide)] at hr
    have e1 : ownR B.os x y = (0, 3) := by unfold ownR; rw [if_pos (by rw [f1]; decide)]
    rw [e1] at HOW
    subst hr
    clear f1 e1
    go_enter Try.func31, Try.ntmps31
    go_wp2_with fail
    refine Calls.mono HOW.out ?_
    rintro e w4 ⟨rfl, b4⟩
    have y0' := keepY b4 y0
    have y1' := keepY b4 y1
    have hzz := HZ.out
    clear y0 y1
    have XX : Blk _ (w.heap.size + 1) #[.slice none 0 0, .int .i64 0] 34 := Blk.below HX3.out b4
    have ON9 : (#[lv, .int .i64 B.nx] : Array Value).all (·.oneCell') = true := oneBkO (w := w) (l := B.os) HL.out _
    obtain ⟨W9, hW9, X9, _⟩ := setRow_named XX #[lv, .int .i64 B.nx]
    go_wp2_with ((with_reducible refine st_row (ty := 34) XX (infoBk2 _ _) (sameBk2 _ _ _ _) ON9 hW9 ?_ ?_ ?_); kernel_rfl; kernel_rfl)
    refine bodyPost_ret (v := .tuple #[.agg #[lv, .int .i64 B.nx], .int .i64 3]) (refAmend_results X9 rfl rfl) rfl ?_
    have hb9 := below_row (Below.trans HB.out (b4.mono (by omega))) hW9 (by omega)
    exact ⟨lv, rfl, Ods.below HL.out hb9, hb9, fun k hk => Or.inl hk⟩
  · rw [if_neg (by rw [f1]; omega), gtB_some f1 f2 f3, f1, Int.toNat_natCast] at hr
    by_cases hy : o.own = y
    · rw [if_pos hy] at hr
      have e1 : ownR B.os x y = ((i : Int), 0) := by unfold ownR; rw [if_neg (by rw [f1]; omega), gtB_some f1 f2 f3, if_pos hy, f1]
      rw [e1] at HOW
      obtain ⟨la, lc, hlv, hcells⟩ := id HL.out
      subst hlv
      obtain ⟨g, off, rfl, hcs⟩ : ∃ g off, la = some ⟨g, off, none⟩ ∧ ∀ j u, (oC o)[j]? = some u → w.cell? ⟨g, off + i * 6 + j, none⟩ = some u := by
        rcases hcells with hn | ⟨g, off, e, hx⟩
        · exfalso; rw [hn] at f4; simp at f4
        · exact ⟨g, off, e, fun j u hu => hx i o j u f2 hu⟩
      have HCS : Hid _ := hcs
      have HO2 : Hid _ := f2
      have HRR : Hid _ := hr
      have hi0 : (0 : Int) ≤ (i : Int) := by omega
      have hi1 : (i : Int) < (B.os.length : Int) := by omega
      have hiN : i < B.os.length := f4
      obtain ⟨st, HST⟩ : ∃ st : Bool, Hid ((o.pr == pr && decide (am ≤ o.am)) = st) := ⟨_, rfl⟩
      have HML : Hid (B.os.length ≤ 64) := hlen
      clear f1 f2 f3 f4 e1 hy hr hcs hcells
      go_enter Try.func31, Try.ntmps31
      go_wp2_with fail
      refine Calls.mono HOW.out ?_
      rintro e w4 ⟨rfl, b4⟩
      have hzz := HZ.out
      have z4 := b4.size
      have hb4 : Below w.heap.size w w4 := Below.trans HB.out (b4.mono (by omega))
      have y0' := keepY b4 y0
      have y1' := keepY b4 y1
      have m0 : w4.cell? ⟨g, off + i * 6, none⟩ = some (.int .i64 o.id) := keepY hb4 (HCS.out 0 _ rfl)
      have m1 : w4.cell? ⟨g, off + i * 6 + 1, none⟩ = some (.int .i64 o.own) := keepY hb4 (HCS.out 1 _ rfl)
      have m2 : w4.cell? ⟨g, off + i * 6 + 2, none⟩ = some (.int .i64 o.pr) := keepY hb4 (HCS.out 2 _ rfl)
      have m3 : w4.cell? ⟨g, off + i * 6 + 3, none⟩ = some (.int .i64 o.am) := keepY hb4 (HCS.out 3 _ rfl)
      have m4 : w4.cell? ⟨g, off + i * 6 + 4, none⟩ = some (.int .i64 o.pl) := keepY hb4 (HCS.out 4 _ rfl)
      have m5 : w4.cell? ⟨g, off + i * 6 + 5, none⟩ = some (.bool o.by) := keepY hb4 (HCS.out 5 _ rfl)
      obtain ⟨q, hq⟩ : ∃ q, w4.heap.size = q := ⟨_, rfl⟩
      obtain ⟨W5, hW5, X5, B5, Z5⟩ : ∃ W5, w4.alloc (.cells #[.int .i64 o.id, .int .i64 o.own, .int .i64 o.pr, .int .i64 o.am, .int .i64 o.pl, .bool o.by] 28) = W5 ∧ Blk W5 q #[.int .i64 o.id, .int .i64 o.own, .int .i64 o.pr, .int .i64 o.am, .int .i64 o.pl, .bool o.by] 28 ∧ Below w4.heap.size w4 W5 ∧ W5.heap.size = q + 1 := ⟨_, rfl, blk_new _ _ _ _ hq.symm, by go_grown, by simp; omega⟩
      have x2 : W5.cell? ⟨q, 2, none⟩ = some (.int .i64 o.pr) := X5.cell rfl
      have x3 : W5.cell? ⟨q, 3, none⟩ = some (.int .i64 o.am) := X5.cell rfl
      have XB5 := (Blk.below HY1.out b4).below B5
      have XR5 := (Blk.below HX3.out b4).below B5
      have HB5 : Hid (Below w.heap.size w W5) := hb4.trans (B5.mono (by omega))
      have HX5 : Hid _ := X5
      have HXB : Hid _ := XB5
      have HXR : Hid _ := XR5
      have hqb : w.heap.size + 2 ≤ q := by omega
      have HQ : Hid _ := hq
      have HZ5 : Hid _ := Z5
      clear b4 z4 y0 y1 hb4 XB5 XR5 X5 Z5 B5 hzz
      go_upto_region 5 with fail
      try rw [hq]
      clear hq hW5
      go_cut [15] (fun bv wx => bv = .bool st ∧ wx = W5)
      case first =>
        by_cases t1 : o.pr = pr
        · have d1 : (o.pr == pr) = true := by simpa using t1
          have HS : Hid (st = decide (am ≤ o.am)) := by have := HST.out; rw [d1] at this; rw [← this]; rfl
          clear t1
          go_wp2_with fail
          go_meet
          exact ⟨by rw [HS.out], rfl⟩
        · have d1 : (o.pr == pr) = false := by simpa using t1
          have HS : Hid (st = false) := by have := HST.out; rw [d1] at this; rw [← this]; rfl
          clear t1
          go_wp2_with fail
          go_meet
          exact ⟨by rw [HS.out], rfl⟩
      case rest =>
        obtain ⟨rfl, h5⟩ := hcut
        obtain rfl := h5.symm
        clear m0 m1 m2 m3 m4 m5 y0' y1'
        have X5 : Blk W5 q #[.int .i64 o.id, .int .i64 o.own, .int .i64 o.pr, .int .i64 o.am, .int .i64 o.pl, .bool o.by] 28 := HX5.out
        have f2 : W5.frozen? ⟨q, 2, none⟩ = false := X5.frozen
        obtain ⟨W6, hW6, X6, O6⟩ : ∃ W6, W5.setCell ⟨q, 2, none⟩ (.int .i64 pr) = W6 ∧ Blk W6 q #[.int .i64 o.id, .int .i64 o.own, .int .i64 pr, .int .i64 o.am, .int .i64 o.pl, .bool o.by] 28 ∧ Off q W5 W6 := ⟨_, rfl, X5.set 2 _, Off.setCell (Off.refl q W5) (p := ⟨q, 2, none⟩) rfl _⟩
        have f3 : W6.frozen? ⟨q, 3, none⟩ = false := X6.frozen
        have x3' : W6.cell? ⟨q, 3, none⟩ = some (.int .i64 o.am) := X6.cell rfl
        obtain ⟨W7, hW7, X7, O7⟩ : ∃ W7, W6.setCell ⟨q, 3, none⟩ (.int .i64 am) = W7 ∧ Blk W7 q #[.int .i64 o.id, .int .i64 o.own, .int .i64 pr, .int .i64 am, .int .i64 o.pl, .bool o.by] 28 ∧ Off q W6 W7 := ⟨_, rfl, X6.set 3 _, Off.setCell (Off.refl q W6) (p := ⟨q, 3, none⟩) rfl _⟩
        have O57 : Off q W5 W7 := O6.trans O7
        have z0 : W7.cell? ⟨q, 0, none⟩ = some (.int .i64 o.id) := X7.cell rfl
        have z1 : W7.cell? ⟨q, 1, none⟩ = some (.int .i64 o.own) := X7.cell rfl
        have z2 : W7.cell? ⟨q, 2, none⟩ = some (.int .i64 pr) := X7.cell rfl
        have z3 : W7.cell? ⟨q, 3, none⟩ = some (.int .i64 am) := X7.cell rfl
        have z4 : W7.cell? ⟨q, 4, none⟩ = some (.int .i64 o.pl) := X7.cell rfl
        have z5 : W7.cell? ⟨q, 5, none⟩ = some (.bool o.by) := X7.cell rfl
        have HX7 : Hid _ := X7
        have HB7 : Hid (Below w.heap.size w W7) := O57.below (by omega) HB5.out (by have := HZ5.out; omega)
        have HXB7 : Hid _ := Blk.off HXB.out O57 (by omega)
        have HXR7 : Hid _ := Blk.off HXR.out O57 (by omega)
        have hz7 : q + 1 ≤ W7.heap.size := by have := O57.size; have := HZ5.out; omega
        have HRT : Hid _ := right_calls (o.amd pr am) W7
        clear X5 X6 X7 O6 O7 O57 HX5 HXB HXR HB5
        cases hmb : mayB (o.amd pr am)
        · rw [hmb] at HRT
          have HR2 : Hid (r = (1, B)) := by have := HRR.out; unfold Bo.amd at this; rw [if_pos hmb] at this; exact this.symm
          obtain rfl := HR2.out
          clear hmb
          go_wp2_with fail
          refine Calls.mono HRT.out ?_
          rintro e w8 ⟨rfl, g8⟩
          have b8 := g8.below
          have y0 : w8.cell? ⟨w.heap.size, 0, none⟩ = some _ := keepY b8 (Blk.cell HXB7.out rfl)
          have y1 : w8.cell? ⟨w.heap.size, 1, none⟩ = some (.int .i64 B.nx) := keepY b8 (Blk.cell HXB7.out rfl)
          have HX8 : Hid _ := Blk.below HXR7.out b8
          have HB8 : Hid _ := Below.trans HB7.out (b8.mono (by omega))
          clear x2 x3 f2 f3 x3' z0 z1 z2 z3 z4 z5 b8 g8 hW6 hW7
          have XX : Blk _ (w.heap.size + 1) #[.slice none 0 0, .int .i64 0] 34 := HX8.out
          have ON9 : (#[(.slice (some ⟨g, off, none⟩) B.os.length lc), .int .i64 B.nx] : Array Value).all (·.oneCell') = true := oneBkO (w := w) (l := B.os) HL.out _
          obtain ⟨W9, hW9, X9, _⟩ := setRow_named XX #[(.slice (some ⟨g, off, none⟩) B.os.length lc), .int .i64 B.nx]
          go_wp2_with ((with_reducible refine st_row (ty := 34) XX (infoBk2 _ _) (sameBk2 _ _ _ _) ON9 hW9 ?_ ?_ ?_); kernel_rfl; kernel_rfl)
          refine bodyPost_ret (v := .tuple #[.agg #[(.slice (some ⟨g, off, none⟩) B.os.length lc), .int .i64 B.nx], .int .i64 1]) (refAmend_results X9 rfl rfl) rfl ?_
          have hb9 := below_row (HB8.out) hW9 (by omega)
          exact ⟨_, rfl, Ods.below HL.out hb9, hb9, fun k hk => Or.inl hk⟩
        · rw [hmb] at HRT
          cases st
          · have HR1 : Hid ((if B.nx = 9007199254740992 then ((2 : Int), B) else (0, (B.rem i).stand (o.amd pr am))) = r) := by
              have := HRR.out
              unfold Bo.amd at this
              rw [if_neg (by rw [hmb]; decide), if_neg (by
                intro hc
                have hs := HST.out
                rw [hc.1, decide_eq_true hc.2] at hs
                simp at hs)] at this
              exact this
            clear hmb
            go_wp2_with fail
            refine Calls.mono HRT.out ?_
            rintro e w8 ⟨rfl, g8⟩
            have b8 := g8.below
            have zz8 := b8.size
            have y0 : w8.cell? ⟨w.heap.size, 0, none⟩ = some _ := keepY b8 (Blk.cell HXB7.out rfl)
            have y1 : w8.cell? ⟨w.heap.size, 1, none⟩ = some (.int .i64 B.nx) := keepY b8 (Blk.cell HXB7.out rfl)
            have HX8 : Hid _ := Blk.below HXR7.out b8
            have HXB8 : Hid _ := Blk.below HXB7.out b8
            have HXO8 : Hid _ := Blk.below HX7.out b8
            have HB8 : Hid _ := Below.trans HB7.out (b8.mono (by omega))
            have hz8 : q + 1 ≤ w8.heap.size := by omega
            clear x2 x3 f2 f3 x3' z0 z1 z2 z3 z4 z5 b8 g8 hW6 hW7 zz8
            by_cases hnx : B.nx = 9007199254740992
            · have HR2 : Hid (r = (2, B)) := by have := HR1.out; rw [if_pos hnx] at this; exact this.symm
              obtain rfl := HR2.out
              have dn : decide ((9007199254740992 : Int) ≤ B.nx) = true := decide_eq_true (by omega)
              clear hnx
              have XX : Blk _ (w.heap.size + 1) #[.slice none 0 0, .int .i64 0] 34 := HX8.out
              have ON9 : (#[(.slice (some ⟨g, off, none⟩) B.os.length lc), .int .i64 B.nx] : Array Value).all (·.oneCell') = true := oneBkO (w := w) (l := B.os) HL.out _
              obtain ⟨W9, hW9, X9, _⟩ := setRow_named XX #[(.slice (some ⟨g, off, none⟩) B.os.length lc), .int .i64 B.nx]
              go_wp2_with ((with_reducible refine st_row (ty := 34) XX (infoBk2 _ _) (sameBk2 _ _ _ _) ON9 hW9 ?_ ?_ ?_); kernel_rfl; kernel_rfl)
              refine bodyPost_ret (v := .tuple #[.agg #[(.slice (some ⟨g, off, none⟩) B.os.length lc), .int .i64 B.nx], .int .i64 2]) (refAmend_results X9 rfl rfl) rfl ?_
              have hb9 := below_row (HB8.out) hW9 (by omega)
              exact ⟨_, rfl, Ods.below HL.out hb9, hb9, fun k hk => Or.inl hk⟩
            · have HR2 : Hid (r = (0, (B.rem i).stand (o.amd pr am))) := by have := HR1.out; rw [if_neg hnx] at this; exact this.symm
              obtain rfl := HR2.out
              have dn : decide ((9007199254740992 : Int) ≤ B.nx) = false := decide_eq_false (by omega)
              have hwn : IntKind.i64.wrap (B.nx + 1) = B.nx + 1 := by rw [IntKind.wrap_i64]; omega
              have hel : (B.os.eraseIdx i).length ≤ 64 := Nat.le_trans (List.length_eraseIdx_le ..) HML.out
              have HWO : Hid (∀ wx, Ods wx (.slice (some ⟨g, off, none⟩) B.os.length lc) B.os → Calls Try.prog 52 #[.slice (some ⟨g, off, none⟩) B.os.length lc, .int .i64 i] wx fun e w' => ∃ v', e = .returned v' ∧ w'.ownsRow wx.heap.size 28 6 v' (B.os.eraseIdx i).length (odL (B.os.eraseIdx i)) ∧ Below wx.heap.size wx w') := fun wx hx => by
                have := without_calls (.slice (some ⟨g, off, none⟩) B.os.length lc) B.os i wx hx (by omega)
                rw [wo_nat] at this
                exact this
              have XO8 : Blk w8 q #[.int .i64 o.id, .int .i64 o.own, .int .i64 pr, .int .i64 am, .int .i64 o.pl, .bool o.by] 28 := HXO8.out
              have f4 : w8.frozen? ⟨q, 4, none⟩ = false := XO8.frozen
              have x4 : w8.cell? ⟨q, 4, none⟩ = some (.int .i64 o.pl) := XO8.cell rfl
              obtain ⟨WR, hWR, XO6, hother⟩ : ∃ WR, w8.setCell ⟨q, 4, none⟩ (.int .i64 B.nx) = WR ∧ Blk WR q #[.int .i64 o.id, .int .i64 o.own, .int .i64 pr, .int .i64 am, .int .i64 B.nx, .bool o.by] 28 ∧ Off q w8 WR := ⟨_, rfl, XO8.set 4 _, Off.setCell (Off.refl q w8) (p := ⟨q, 4, none⟩) rfl _⟩
              have XB6 := Blk.off HXB8.out hother (by omega)
              have XR0 := Blk.off HX8.out hother (by omega)
              have hbR : Below w.heap.size w WR := hother.below (by omega) HB8.out (by omega)
              have HLR : Hid _ := Ods.below HL.out hbR
              have hzR := hother.size
              obtain ⟨R, hR⟩ : ∃ R, w.heap.size + 1 = R := ⟨_, rfl⟩
              have hRlt : R < WR.heap.size := by omega
              have hR0 : w.heap.size ≠ R := by omega
              have hR1 : q ≠ R := by omega
              have hR2 : w.heap.size ≤ R := by omega
              have XR : Blk WR R #[.slice none 0 0, .int .i64 0] 34 := by rw [← hR]; exact XR0
              have HC0 : Hid (∀ wx, Off R WR wx → wx.cell? ⟨w.heap.size, 0, none⟩ = some (.slice (some ⟨g, off, none⟩) B.os.length lc)) := fun wx hx => keepO hx (XB6.cell rfl) hR0
              have HC1 : Hid (∀ wx, Off R WR wx → wx.cell? ⟨w.heap.size, 1, none⟩ = some (.int .i64 B.nx)) := fun wx hx => keepO hx (XB6.cell rfl) hR0
              have HO0 : Hid (∀ wx, Off R WR wx → wx.cell? ⟨q, 0, none⟩ = some (.int .i64 o.id)) := fun wx hx => keepO hx (XO6.cell rfl) hR1
              have HO1 : Hid (∀ wx, Off R WR wx → wx.cell? ⟨q, 1, none⟩ = some (.int .i64 o.own)) := fun wx hx => keepO hx (XO6.cell rfl) hR1
              have HO2 : Hid (∀ wx, Off R WR wx → wx.cell? ⟨q, 2, none⟩ = some (.int .i64 pr)) := fun wx hx => keepO hx (XO6.cell rfl) hR1
              have HO3 : Hid (∀ wx, Off R WR wx → wx.cell? ⟨q, 3, none⟩ = some (.int .i64 am)) := fun wx hx => keepO hx (XO6.cell rfl) hR1
              have HO4 : Hid (∀ wx, Off R WR wx → wx.cell? ⟨q, 4, none⟩ = some (.int .i64 B.nx)) := fun wx hx => keepO hx (XO6.cell rfl) hR1
              have HO5 : Hid (∀ wx, Off R WR wx → wx.cell? ⟨q, 5, none⟩ = some (.bool o.by)) := fun wx hx => keepO hx (XO6.cell rfl) hR1
              have HHR : Hid _ := hR
              clear XO8 XR0 hother XB6 XO6 HRT HX7 HXB7 HXR7 HB7 HX8 HXB8 HXO8 HB8
              go_upto_region 17 with fail
              try rw [hR]
              clear hR hW1 hW3 hWR f4 x4 y0 y1
              refine wp_region_held_drew (S := (fun wx => Off R WR wx)) (by kernel_rfl) (Off.drew (Off.refl _ _)) (fun hS => ?_)
              refine wpAnyH_take (i := 0) (v := (.pointer (some ⟨w.heap.size, 0, none⟩))) rfl (by kernel_rfl) (by kernel_rfl) (by kernel_rfl) (fun _ _ _ h => h) (Or.inl ⟨by rfl, fun wx hS => by go_simp⟩) hS ?_
              refine wpAnyH_take (i := 1) (v := (.slice (some ⟨g, off, none⟩) B.os.length lc)) rfl (by kernel_rfl) (by kernel_rfl) (by kernel_rfl) (fun _ _ _ h => h) (Or.inl ⟨by rfl, fun wx hS => by have s0 := HC0.out wx hS; go_simp⟩) hS ?_
              refine wpAnyH_take (i := 2) (v := (.int .i64 i)) rfl (by kernel_rfl) (by kernel_rfl) (by kernel_rfl) (fun _ _ _ h => h) (Or.inl ⟨by rfl, fun wx hS => by go_simp⟩) hS ?_
              refine wpAnyH_take (i := 4) (v := (.agg #[.int .i64 o.id, .int .i64 o.own, .int .i64 pr, .int .i64 am, .int .i64 B.nx, .bool o.by])) rfl (by kernel_rfl) (by kernel_rfl) (by kernel_rfl) (fun _ _ _ h => h) (Or.inl ⟨by rfl, fun wx hS => by have s0 := HO0.out wx hS; have s1 := HO1.out wx hS; have s2 := HO2.out wx hS; have s3 := HO3.out wx hS; have s4 := HO4.out wx hS; have s5 := HO5.out wx hS; go_simp⟩) hS ?_
              refine wpAnyH_take (i := 7) (v := (.pointer (some ⟨w.heap.size, 1, none⟩))) rfl (by kernel_rfl) (by kernel_rfl) (by kernel_rfl) (fun _ _ _ h => h) (Or.inl ⟨by rfl, fun wx hS => by go_simp⟩) hS ?_
              refine wpAnyH_take (i := 8) (v := (.int .i64 B.nx)) rfl (by kernel_rfl) (by kernel_rfl) (by kernel_rfl) (fun _ _ _ h => h) (Or.inl ⟨by rfl, fun wx hS => by have s0 := HC1.out wx hS; go_simp⟩) hS ?_
              refine wpAnyH_take (i := 9) (v := (.int .i64 (B.nx + 1))) rfl (by kernel_rfl) (by kernel_rfl) (by kernel_rfl) (fun _ _ _ h => h) (Or.inl ⟨by rfl, fun wx hS => by go_simp⟩) hS ?_
              refine wpAnyH_ready (rs := [3, 5]) (by kernel_rfl) (by simp) ?_
              refine AllReadyH.cons rfl (fun K hK => ?_) (AllReadyH.cons rfl (fun K hK => ?_) AllReadyH.nil)
              · go_simp
                refine Calls.mono (HWO.out _ (Ods.below HLR.out ((Below.refl _ _).drew))) ?_
                rintro e6 w6 ⟨v6, rfl, own6, b6⟩
                refine hK.out _ _ (hS.trans (Off.of_below b6)) (fun hS => ?_)
                clear hK
                refine wpAnyH_ready (rs := [5]) (by kernel_rfl) (by simp) ?_
                refine AllReadyH.cons rfl (fun K hK => ?_) AllReadyH.nil
                go_simp
                refine hK.out _ _ (hS.alloc _) (fun hS => ?_)
                clear hK
                refine wpAnyH_ready (rs := [6]) (by kernel_rfl) (by simp) ?_
                refine AllReadyH.cons rfl (fun K hK => ?_) AllReadyH.nil
                have ROW := World.ownsRow.alloc (ownsRow_weakO (base2 := WR.heap.size) own6 (Nat.le_refl _)) (.cells #[.int .i64 o.id, .int .i64 o.own, .int .i64 pr, .int .i64 am, .int .i64 B.nx, .bool o.by] 28)
                refine step_ifB rfl ?_
                refine wp_append_own _ (.tmp 73) (.tmp 75) 25 rfl WR.heap.size 28 i6 (.agg #[.int .i64 0, .int .i64 0, .int .i64 0, .int .i64 0, .int .i64 0, .bool false]) 6 48 Try.underlying25 hi6 hy0 hy1 hy2 rfl (by decide) v6 (B.os.eraseIdx i).length (odL (B.os.eraseIdx i)) rfl ROW ⟨w6.heap.size, 0, none⟩ 1 1 (oC ((o.amd pr am).at_ B.nx)) rfl rfl (six_new w6 ((o.amd pr am).at_ B.nx) _) (oC_oneO _) (by unfold maxLen; omega) (by omega) (by have := hS.size; omega) ?_
                intro v7 w7 own7 gr7 _
                obtain ⟨oa7, oc7, rfl⟩ := own_form own7
                have X7 : Blk w7 R #[.slice none 0 0, .int .i64 0] 34 := (gr7.block R (by have := hS.size; omega) (fun q => by have := (ROW.lt _ q.symm).1; omega)).trans (((XR.drew).below b6).alloc _)
                have hS7 := off_grownR hS gr7 (fun k hk => (ROW.lt k hk).1)
                refine hK.out _ _ hS7 (fun hS => ?_)
                clear hK
                refine wpAnyH_take (i := 10) (v := (.agg #[(.slice oa7 ((B.os.eraseIdx i).length + 1) oc7), .int .i64 (B.nx + 1)])) rfl (by kernel_rfl) (by kernel_rfl) (by kernel_rfl) (fun _ _ _ h => h) (Or.inl ⟨by rfl, fun wx hS => by go_simp⟩) hS ?_
                obtain ⟨W9, hW9, X9, _⟩ := setRow_named X7 #[(.slice oa7 ((B.os.eraseIdx i).length + 1) oc7), .int .i64 (B.nx + 1)]
                refine wpAnyH_ready (rs := [11]) (by kernel_rfl) (by simp) ?_
                refine readyH_rowC 11 rfl (ty := 34) (x := .tmp 10) (y := .tmp 80) rfl rfl rfl R #[(.slice oa7 ((B.os.eraseIdx i).length + 1) oc7), .int .i64 (B.nx + 1)] (by kernel_rfl) (by kernel_rfl) 34 #[.slice none 0 0, .int .i64 0] X7 (infoBk2 _ _) rfl (oneBk2 _ _ _ _) (hS.setRow _) (fun hS => ?_)
                refine wpAnyH_ready (rs := [12]) (by kernel_rfl) (by simp) ?_
                refine AllReadyH.cons rfl (fun K hK => ?_) AllReadyH.nil
                go_simp
                try rw [hW9] at hS
                refine hK.out _ _ hS (fun hS => ?_)
                clear hK
                refine wpAnyH_done (by kernel_rfl) ?_ _
                try rw [hW9]
                go_wp2
                refine bodyPost_ret (v := .tuple #[.agg #[(.slice oa7 ((B.os.eraseIdx i).length + 1) oc7), .int .i64 (B.nx + 1)], .int .i64 0]) (refAmend_results X9 rfl rfl) rfl ?_
                have hb9 : Below w.heap.size w W9 := by
                  have h7 := hS7.below hR2 hbR (by omega)
                  exact below_row h7 hW9 hR2
                refine ⟨(.slice oa7 ((B.os.eraseIdx i).length + 1) oc7), rfl, ?_, hb9, fun k hk => Or.inr (by have := own7.lt k hk; have e9 := row_size hW9; omega)⟩
                exact ods_rowW hW9 (ods_own (by rw [← odL_snocO] at own7; exact len_snoc own7)) own7 (by omega)
              · go_simp
                refine hK.out _ _ (hS.alloc _) (fun hS => ?_)
                clear hK
                refine wpAnyH_ready (rs := [3]) (by kernel_rfl) (by simp) ?_
                refine AllReadyH.cons rfl (fun K hK => ?_) AllReadyH.nil
                go_simp
                refine Calls.mono (HWO.out _ (Ods.below HLR.out (((Below.refl _ _).drew).alloc (Nat.le_refl _) _))) ?_
                rintro e6 w6 ⟨v6, rfl, own6, b6⟩
                refine hK.out _ _ (hS.trans (Off.of_below b6)) (fun hS => ?_)
                clear hK
                refine wpAnyH_ready (rs := [6]) (by kernel_rfl) (by simp) ?_
                refine AllReadyH.cons rfl (fun K hK => ?_) AllReadyH.nil
                have ROW := ownsRow_weakO (base2 := WR.heap.size) own6 (by simp)
                refine step_ifB rfl ?_
                refine wp_append_own _ (.tmp 73) (.tmp 75) 25 rfl WR.heap.size 28 i6 (.agg #[.int .i64 0, .int .i64 0, .int .i64 0, .int .i64 0, .int .i64 0, .bool false]) 6 48 Try.underlying25 hi6 hy0 hy1 hy2 rfl (by decide) v6 (B.os.eraseIdx i).length (odL (B.os.eraseIdx i)) rfl ROW ⟨WR.heap.size, 0, none⟩ 1 1 (oC ((o.amd pr am).at_ B.nx)) rfl rfl (fun jj u hu => keepY b6 (six_new WR.drew ((o.amd pr am).at_ B.nx) _ jj u hu)) (oC_oneO _) (by unfold maxLen; omega) (by omega) (by have := hS.size; omega) ?_
                intro v7 w7 own7 gr7 _
                obtain ⟨oa7, oc7, rfl⟩ := own_form own7
                have X7 : Blk w7 R #[.slice none 0 0, .int .i64 0] 34 := (gr7.block R (by have := hS.size; omega) (fun q => by have := (ROW.lt _ q.symm).1; omega)).trans (((XR.drew).alloc _).below b6)
                have hS7 := off_grownR hS gr7 (fun k hk => (ROW.lt k hk).1)
                refine hK.out _ _ hS7 (fun hS => ?_)
                clear hK
                refine wpAnyH_take (i := 10) (v := (.agg #[(.slice oa7 ((B.os.eraseIdx i).length + 1) oc7), .int .i64 (B.nx + 1)])) rfl (by kernel_rfl) (by kernel_rfl) (by kernel_rfl) (fun _ _ _ h => h) (Or.inl ⟨by rfl, fun wx hS => by go_simp⟩) hS ?_
                obtain ⟨W9, hW9, X9, _⟩ := setRow_named X7 #[(.slice oa7 ((B.os.eraseIdx i).length + 1) oc7), .int .i64 (B.nx + 1)]
                refine wpAnyH_ready (rs := [11]) (by kernel_rfl) (by simp) ?_
                refine readyH_rowC 11 rfl (ty := 34) (x := .tmp 10) (y := .tmp 80) rfl rfl rfl R #[(.slice oa7 ((B.os.eraseIdx i).length + 1) oc7), .int .i64 (B.nx + 1)] (by kernel_rfl) (by kernel_rfl) 34 #[.slice none 0 0, .int .i64 0] X7 (infoBk2 _ _) rfl (oneBk2 _ _ _ _) (hS.setRow _) (fun hS => ?_)
                refine wpAnyH_ready (rs := [12]) (by kernel_rfl) (by simp) ?_
                refine AllReadyH.cons rfl (fun K hK => ?_) AllReadyH.nil
                go_simp
                try rw [hW9] at hS
                refine hK.out _ _ hS (fun hS => ?_)
                clear hK
                refine wpAnyH_done (by kernel_rfl) ?_ _
                try rw [hW9]
                go_wp2
                refine bodyPost_ret (v := .tuple #[.agg #[(.slice oa7 ((B.os.eraseIdx i).length + 1) oc7), .int .i64 (B.nx + 1)], .int .i64 0]) (refAmend_results X9 rfl rfl) rfl ?_
                have hb9 : Below w.heap.size w W9 := by
                  have h7 := hS7.below hR2 hbR (by omega)
                  exact below_row h7 hW9 hR2
                refine ⟨(.slice oa7 ((B.os.eraseIdx i).length + 1) oc7), rfl, ?_, hb9, fun k hk => Or.inr (by have := own7.lt k hk; have e9 := row_size hW9; omega)⟩
                exact ods_rowW hW9 (ods_own (by rw [← odL_snocO] at own7; exact len_snoc own7)) own7 (by omega)
          · have HR2 : Hid (r = (0, ⟨B.nx, B.os.set i (o.amd pr am)⟩)) := by
              have := HRR.out
              unfold Bo.amd at this
              have hs := HST.out
              simp only [Bool.and_eq_true, beq_iff_eq, decide_eq_true_eq] at hs
              rw [if_neg (by rw [hmb]; decide), if_pos ⟨hs.1.symm, hs.2⟩] at this
              exact this.symm
            obtain rfl := HR2.out
            have HWO : Hid (∀ wx, Ods wx (.slice (some ⟨g, off, none⟩) B.os.length lc) B.os → Calls Try.prog 52 #[.slice (some ⟨g, off, none⟩) B.os.length lc, .int .i64 (-1)] wx fun e w' => ∃ v', e = .returned v' ∧ w'.ownsRow wx.heap.size 28 6 v' B.os.length (odL B.os) ∧ Below wx.heap.size wx w') := fun wx hx => by
              have := without_calls (.slice (some ⟨g, off, none⟩) B.os.length lc) B.os (-1) wx hx (by omega)
              rw [wo_neg B.os (show (-1 : Int) < 0 by decide)] at this
              exact this
            clear hmb
            go_wp2_with fail
            refine Calls.mono HRT.out ?_
            rintro e w8 ⟨rfl, g8⟩
            have b8 := g8.below
            have zz8 := b8.size
            have y0 : w8.cell? ⟨w.heap.size, 0, none⟩ = some _ := keepY b8 (Blk.cell HXB7.out rfl)
            have HX8 : Hid _ := Blk.below HXR7.out b8
            have HXB8 : Hid _ := Blk.below HXB7.out b8
            have HXO8 : Hid _ := Blk.below HX7.out b8
            have HB8 : Hid _ := Below.trans HB7.out (b8.mono (by omega))
            clear x2 x3 f2 f3 x3' z0 z1 z2 z3 z4 z5 b8 g8 hW6 hW7
            go_wp2_with fail
            refine Calls.mono (HWO.out _ (Ods.below HL.out HB8.out)) ?_
            rintro e v0 ⟨v9, rfl, own0, b9⟩
            obtain ⟨g9, c9, rfl⟩ : ∃ g9 c9, v9 = .slice (some ⟨g9, 0, none⟩) B.os.length c9 := by
              rcases own0.2 with ⟨_, h0⟩ | ⟨g9, c9, cur, e9, _⟩
              · omega
              · exact ⟨g9, c9, e9⟩
            have hg9 := (own0.lt g9 rfl)
            have zz9 := b9.size
            have x0 : v0.cell? ⟨q, 0, none⟩ = some (.int .i64 o.id) := keepY b9 (Blk.cell HXO8.out rfl)
            have x1 : v0.cell? ⟨q, 1, none⟩ = some (.int .i64 o.own) := keepY b9 (Blk.cell HXO8.out rfl)
            have x2 : v0.cell? ⟨q, 2, none⟩ = some (.int .i64 pr) := keepY b9 (Blk.cell HXO8.out rfl)
            have x3 : v0.cell? ⟨q, 3, none⟩ = some (.int .i64 am) := keepY b9 (Blk.cell HXO8.out rfl)
            have x4 : v0.cell? ⟨q, 4, none⟩ = some (.int .i64 o.pl) := keepY b9 (Blk.cell HXO8.out rfl)
            have x5 : v0.cell? ⟨q, 5, none⟩ = some (.bool o.by) := keepY b9 (Blk.cell HXO8.out rfl)
            have hls := odL_len B.os
            have fz0 : v0.frozen? ⟨g9, i * 6, none⟩ = false := own0.frozenAt _
            obtain ⟨ol0, cc0⟩ : ∃ u, v0.cell? ⟨g9, i * 6, none⟩ = some u := ⟨_, (own0.cellAt _ (by omega)).trans (List.getElem?_eq_getElem (by (try simp only [List.length_set]); omega))⟩
            obtain ⟨v1, hV1, own1⟩ : ∃ V, v0.setCell ⟨g9, i * 6, none⟩ (.int .i64 o.id) = V ∧ V.ownsRow w8.heap.size 28 6 (.slice (some ⟨g9, 0, none⟩) B.os.length c9) B.os.length _ := ⟨_, rfl, own_setAt own0 (by omega)⟩
            have O1_ : Off g9 v0 v1 := by rw [← hV1]; exact Off.setCell (Off.refl g9 v0) (p := ⟨g9, i * 6, none⟩) rfl _
            have fz1 : v1.frozen? ⟨g9, i * 6 + 1, none⟩ = false := own1.frozenAt _
            obtain ⟨ol1, cc1⟩ : ∃ u, v1.cell? ⟨g9, i * 6 + 1, none⟩ = some u := ⟨_, (own1.cellAt _ (by omega)).trans (List.getElem?_eq_getElem (by (try simp only [List.length_set]); omega))⟩
            obtain ⟨v2, hV2, own2⟩ : ∃ V, v1.setCell ⟨g9, i * 6 + 1, none⟩ (.int .i64 o.own) = V ∧ V.ownsRow w8.heap.size 28 6 (.slice (some ⟨g9, 0, none⟩) B.os.length c9) B.os.length _ := ⟨_, rfl, own_setAt own1 (by omega)⟩
            have O2_ : Off g9 v0 v2 := by rw [← hV2]; exact Off.setCell O1_ (p := ⟨g9, i * 6 + 1, none⟩) rfl _
            have fz2 : v2.frozen? ⟨g9, i * 6 + 2, none⟩ = false := own2.frozenAt _
            obtain ⟨ol2, cc2⟩ : ∃ u, v2.cell? ⟨g9, i * 6 + 2, none⟩ = some u := ⟨_, (own2.cellAt _ (by omega)).trans (List.getElem?_eq_getElem (by (try simp only [List.length_set]); omega))⟩
            obtain ⟨v3, hV3, own3⟩ : ∃ V, v2.setCell ⟨g9, i * 6 + 2, none⟩ (.int .i64 pr) = V ∧ V.ownsRow w8.heap.size 28 6 (.slice (some ⟨g9, 0, none⟩) B.os.length c9) B.os.length _ := ⟨_, rfl, own_setAt own2 (by omega)⟩
            have O3_ : Off g9 v0 v3 := by rw [← hV3]; exact Off.setCell O2_ (p := ⟨g9, i * 6 + 2, none⟩) rfl _
            have fz3 : v3.frozen? ⟨g9, i * 6 + 3, none⟩ = false := own3.frozenAt _
            obtain ⟨ol3, cc3⟩ : ∃ u, v3.cell? ⟨g9, i * 6 + 3, none⟩ = some u := ⟨_, (own3.cellAt _ (by omega)).trans (List.getElem?_eq_getElem (by (try simp only [List.length_set]); omega))⟩
            obtain ⟨v4, hV4, own4⟩ : ∃ V, v3.setCell ⟨g9, i * 6 + 3, none⟩ (.int .i64 am) = V ∧ V.ownsRow w8.heap.size 28 6 (.slice (some ⟨g9, 0, none⟩) B.os.length c9) B.os.length _ := ⟨_, rfl, own_setAt own3 (by omega)⟩
            have O4_ : Off g9 v0 v4 := by rw [← hV4]; exact Off.setCell O3_ (p := ⟨g9, i * 6 + 3, none⟩) rfl _
            have fz4 : v4.frozen? ⟨g9, i * 6 + 4, none⟩ = false := own4.frozenAt _
            obtain ⟨ol4, cc4⟩ : ∃ u, v4.cell? ⟨g9, i * 6 + 4, none⟩ = some u := ⟨_, (own4.cellAt _ (by omega)).trans (List.getElem?_eq_getElem (by (try simp only [List.length_set]); omega))⟩
            obtain ⟨v5, hV5, own5⟩ : ∃ V, v4.setCell ⟨g9, i * 6 + 4, none⟩ (.int .i64 o.pl) = V ∧ V.ownsRow w8.heap.size 28 6 (.slice (some ⟨g9, 0, none⟩) B.os.length c9) B.os.length _ := ⟨_, rfl, own_setAt own4 (by omega)⟩
            have O5_ : Off g9 v0 v5 := by rw [← hV5]; exact Off.setCell O4_ (p := ⟨g9, i * 6 + 4, none⟩) rfl _
            have fz5 : v5.frozen? ⟨g9, i * 6 + 5, none⟩ = false := own5.frozenAt _
            obtain ⟨ol5, cc5⟩ : ∃ u, v5.cell? ⟨g9, i * 6 + 5, none⟩ = some u := ⟨_, (own5.cellAt _ (by omega)).trans (List.getElem?_eq_getElem (by (try simp only [List.length_set]); omega))⟩
            obtain ⟨V6, hV6, own6⟩ : ∃ V, v5.setCell ⟨g9, i * 6 + 5, none⟩ (.bool o.by) = V ∧ V.ownsRow w8.heap.size 28 6 (.slice (some ⟨g9, 0, none⟩) B.os.length c9) B.os.length _ := ⟨_, rfl, own_setAt own5 (by omega)⟩
            have O6_ : Off g9 v0 V6 := by rw [← hV6]; exact Off.setCell O5_ (p := ⟨g9, i * 6 + 5, none⟩) rfl _
            have OV := O6_
            have hfin : V6.ownsRow w8.heap.size 28 6 (.slice (some ⟨g9, 0, none⟩) B.os.length c9) B.os.length (odL (B.os.set i (o.amd pr am))) := by
              have := odL_set6 (o.amd pr am) HO2.out
              rw [← this]; exact own6
            have hn8 : w.heap.size + 2 ≤ w8.heap.size := by omega
            have XB9 : Blk V6 w.heap.size _ 34 := Blk.off (Blk.below HXB8.out b9) OV (by omega)
            have XR9 : Blk V6 (w.heap.size + 1) _ 34 := Blk.off (Blk.below HX8.out b9) OV (by omega)
            have hb9 : Below w.heap.size w V6 := OV.below (by omega) (Below.trans HB8.out (b9.mono (by omega))) (by omega)
            have y1 : V6.cell? ⟨w.heap.size, 1, none⟩ = some (.int .i64 B.nx) := XB9.cell rfl
            obtain ⟨W9, hW9, X9, _⟩ := setRow_named XR9 #[.slice (some ⟨g9, 0, none⟩) B.os.length c9, .int .i64 B.nx]
            have hls2 : (B.os.set i (o.amd pr am)).length = B.os.length := List.length_set ..
            have HFIN : Hid _ := hfin
            clear hfin hls own0 own1 own2 own3 own4 own5 own6 XB9 b9 HX8 HXB8 HXO8 HX7 HXB7 HXR7 HB7 HRT HWO y0
            go_wp2_with ((with_reducible refine st_row (ty := 34) XR9 (infoBk2 _ _) (sameBk2 _ _ _ _) (oneBk2 _ _ _ _) hW9 ?_ ?_ ?_); kernel_rfl; kernel_rfl)
            refine bodyPost_ret (v := .tuple #[.agg #[.slice (some ⟨g9, 0, none⟩) B.os.length c9, .int .i64 B.nx], .int .i64 0]) (refAmend_results X9 rfl rfl) rfl ?_
            refine ⟨_, rfl, ?_, below_row hb9 hW9 (by omega), fun k hk => Or.inr (by have := World.ownsRow.lt HFIN.out k hk; have e9 := row_size hW9; omega)⟩
            exact ods_rowW hW9 (ods_own (base := w8.heap.size) (by show V6.ownsRow w8.heap.size 28 6 (.slice (some ⟨g9, 0, none⟩) B.os.length c9) (B.os.set i (o.amd pr am)).length (odL (B.os.set i (o.amd pr am))); rw [hls2]; exact HFIN.out)) HFIN.out (by omega)
    · rw [if_neg hy] at hr
      have e1 : ownR B.os x y = (0, 80) := by unfold ownR; rw [if_neg (by rw [f1]; omega), gtB_some f1 f2 f3, if_neg hy]
      rw [e1] at HOW
      subst hr
      clear f1 f2 f3 f4 e1 hy
      go_enter Try.func31, Try.ntmps31
      go_wp2_with fail
      refine Calls.mono HOW.out ?_
      rintro e w4 ⟨rfl, b4⟩
      have y0' := keepY b4 y0
      have y1' := keepY b4 y1
      have hzz := HZ.out
      clear y0 y1
      have XX : Blk _ (w.heap.size + 1) #[.slice none 0 0, .int .i64 0] 34 := Blk.below HX3.out b4
      have ON9 : (#[lv, .int .i64 B.nx] : Array Value).all (·.oneCell') = true := oneBkO (w := w) (l := B.os) HL.out _
      obtain ⟨W9, hW9, X9, _⟩ := setRow_named XX #[lv, .int .i64 B.nx]
      go_wp2_with ((with_reducible refine st_row (ty := 34) XX (infoBk2 _ _) (sameBk2 _ _ _ _) ON9 hW9 ?_ ?_ ?_); kernel_rfl; kernel_rfl)
      refine bodyPost_ret (v := .tuple #[.agg #[lv, .int .i64 B.nx], .int .i64 80]) (refAmend_results X9 rfl rfl) rfl ?_
      have hb9 := below_row (Below.trans HB.out (b4.mono (by omega))) hW9 (by omega)
      exact ⟨lv, rfl, Ods.below HL.out hb9, hb9, fun k hk => Or.inl hk⟩
end Go.Proofs.Ytlhfdgeknpmdfaa
