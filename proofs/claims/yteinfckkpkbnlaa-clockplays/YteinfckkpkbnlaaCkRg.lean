/- The document's auction: Next. -/
import Derived.Test.YteinfckkpkbnlaaCkRf
import Derived.Test.YteinfckkpkbnlaaEnB
namespace Go.Proofs.Yteinfckkpkbnlaa
open Go.RowKit
set_option linter.unusedSimpArgs false
set_option linter.unusedVariables false
variable {a : Au} {R g cap : Nat} {rs : Nat → Value}

theorem rf_info (a : Au) (R g cap : Nat) : (Try.prog.info? 30).map (·.size) = some (rfA a R g cap).size := by kernel_rfl
theorem rf_one (a : Au) (R g cap : Nat) : (rfA a R g cap).all (·.oneCell') = true := by kernel_rfl
theorem rf_same (a : Au) (R g cap : Nat) : (#[.int .i64 0, .int .i64 0, .int .i64 0, .int .i64 0, .slice none 0 0] : Array Value).size = (rfA a R g cap).size := rfl
theorem infoSl : (Try.prog.info? 43).map (fun i => (i.zero, i.size, i.bytes)) = some (some (.slice none 0 0), 1, 24) := by kernel_rfl
theorem tab_congr {n : Nat} {f f' : Nat → Int} (h : ∀ i, i < n → f i = f' i) : tab n f = tab n f' :=
  gAt_ext (by rw [tab_len, tab_len]) fun i hi => by rw [tab_len] at hi; rw [tab_at _ hi, tab_at _ hi, h i hi]
def rsL (rs : Nat → Value) (R : Nat) : List Value := (List.range R).map rs
theorem rsL_len (rs : Nat → Value) (R : Nat) : (rsL rs R).length = R * 1 := by simp [rsL]
theorem rsL_at (rs : Nat → Value) {R i : Nat} (h : i < R) : (rsL rs R)[i]? = some (rs i) := by simp [rsL, h]
theorem rsL_one {w : World} (h : Rf w a R g cap rs) {k : Nat} (hk : k ≤ R) : ∀ u ∈ rsL rs k, u.oneCell' = true := by
  intro u hu
  simp only [rsL, List.mem_map, List.mem_range] at hu
  obtain ⟨i, hi, rfl⟩ := hu
  obtain ⟨c, n, cp, e⟩ := h.sl i (by omega)
  rw [e]; rfl
theorem rsL_cells {w : World} (h : Rf w a R g cap rs) {k : Nat} (hk : k ≤ R) : ∀ j u, (rsL rs k)[j]? = some u → w.cell? ((⟨g, 0, none⟩ : Addr).add j) = some u := by
  intro j u hj
  have hjk : j < k := by
    have := (List.getElem?_eq_some_iff.1 hj).1
    rw [rsL_len] at this; omega
  rw [rsL_at rs hjk] at hj
  cases hj
  rw [Addr.add_lit, Nat.zero_add]
  exact h.cell j (by omega)
/-- A row of slices of one's own. -/
theorem own_row {w : World} {B n : Nat} {v : Value} {xs : List Value} (h : w.ownsRow B 43 1 v n xs) (hn : 1 ≤ n) : ∃ g cap, v = .slice (some ⟨g, 0, none⟩) n cap ∧ B ≤ g ∧ g < w.heap.size ∧ n ≤ cap ∧ ∀ i u, xs[i]? = some u → w.cell? ⟨g, i, none⟩ = some u := by
  have h0 := h
  obtain ⟨h1, h2⟩ := h
  rcases h2 with ⟨_, e⟩ | ⟨g, cap, cur, rfl, hb, hg, hc, hm, hs, ht⟩
  · omega
  · refine ⟨g, cap, rfl, hb, ?_, hc, fun i u hu => ?_⟩
    · rcases Nat.lt_or_ge g w.heap.size with q | q
      · exact q
      · rw [Array.getElem?_eq_none q] at hg; cases hg
    · have := h0.cells rfl _ _ hu
      rw [Addr.add_lit, Nat.zero_add] at this
      exact this

set_option maxRecDepth 100000 in
set_option maxHeartbeats 2000000 in
theorem next_closed (w : World) (h : Rf w a R g cap rs) (h0 : a.state ≠ 0) : Calls Try.prog 15 #[rfV a R g cap] w fun e w' => e = .returned (.tuple #[rfV a R g cap, .int .i64 70]) ∧ Rf w' a R g cap rs ∧ Below w.heap.size w w' := by
  obtain ⟨W1, hW1, X1, B1⟩ := rf_box w a R g cap
  obtain ⟨W2, hW2, X2, Y2, B2, Z2⟩ : ∃ W2, W1.alloc (.cells #[.int .i64 0, .int .i64 0, .int .i64 0, .int .i64 0, .slice none 0 0] 30) = W2 ∧ Blk W2 w.heap.size (rfA a R g cap) 30 ∧ Blk W2 (w.heap.size + 1) #[.int .i64 0, .int .i64 0, .int .i64 0, .int .i64 0, .slice none 0 0] 30 ∧ Below w.heap.size w W2 ∧ W2.heap.size = w.heap.size + 2 := by
    have hz : W1.heap.size = w.heap.size + 1 := by rw [← hW1]; simp
    exact ⟨_, rfl, X1.alloc _, blk_new _ _ _ _ hz.symm, B1.alloc (by omega) _, by simp [hz]⟩
  have hsz : W1.heap.size = w.heap.size + 1 := by rw [← hW1]; simp
  have L2 := h.below B2
  have c3 : W2.cell? ⟨w.heap.size, 3, none⟩ = some (.int .i64 a.state) := X2.cell rfl
  have c0 : W2.cell? ⟨w.heap.size, 0, none⟩ = some (.int .i64 a.supply) := X2.cell rfl
  have c1 : W2.cell? ⟨w.heap.size, 1, none⟩ = some (.int .i64 a.start) := X2.cell rfl
  have c2 : W2.cell? ⟨w.heap.size, 2, none⟩ = some (.int .i64 a.step) := X2.cell rfl
  have c4 : W2.cell? ⟨w.heap.size, 4, none⟩ = some (.slice (some ⟨g, 0, none⟩) R cap) := X2.cell rfl
  have d0 : (a.state == 0) = false := by simpa using h0
  obtain ⟨W3, hW3, Y3, B3⟩ : ∃ W3, W2.setRow (w.heap.size + 1) (rfA a R g cap) = W3 ∧ Blk W3 (w.heap.size + 1) (rfA a R g cap) 30 ∧ Below w.heap.size w W3 := ⟨_, rfl, Y2.setRow _, below_setRow B2 _ _ (by omega)⟩
  have HL : Hid _ := h.below B3
  clear h L2 X1 X2
  unfold rfV
  rw [show rfA a R g cap = #[.int .i64 a.supply, .int .i64 a.start, .int .i64 a.step, .int .i64 a.state, .slice (some ⟨g, 0, none⟩) R cap] from rfl]
  go_enter Try.func15, Try.ntmps15
  go_wp2_with ((with_reducible refine st_row (ty := 30) (cs' := rfA a R g cap) Y2 (rf_info _ _ _ _) (rf_same _ _ _ _) (rf_one _ _ _ _) hW3 ?_ ?_ ?_); rfl; rfl)
  have s0 : W3.cell? ⟨w.heap.size + 1, 0, none⟩ = some (.int .i64 (a.supply)) := Y3.cell rfl
  have s1 : W3.cell? ⟨w.heap.size + 1, 1, none⟩ = some (.int .i64 (a.start)) := Y3.cell rfl
  have s2 : W3.cell? ⟨w.heap.size + 1, 2, none⟩ = some (.int .i64 (a.step)) := Y3.cell rfl
  have s3 : W3.cell? ⟨w.heap.size + 1, 3, none⟩ = some (.int .i64 (a.state)) := Y3.cell rfl
  have s4 : W3.cell? ⟨w.heap.size + 1, 4, none⟩ = some (.slice (some ⟨g, 0, none⟩) R cap) := Y3.cell rfl
  try simp only [Exit.inBlock, Exit.then]
  refine bodyPost_ret (by simp [results, Try.results15, go_sem, s0, s1, s2, s3, s4]; rfl) rfl ?_
  exact ⟨rfl, HL.out, B3⟩

set_option maxRecDepth 100000 in
set_option maxHeartbeats 2000000 in
theorem next_sold (w : World) (h : Rf w a R g cap rs) (h0 : a.state = 0) (hw : a.want ≤ a.supply) : Calls Try.prog 15 #[rfV a R g cap] w fun e w' => e = .returned (.tuple #[rfV { a with state := 1 } R g cap, .int .i64 0]) ∧ Rf w' { a with state := 1 } R g cap rs ∧ Below w.heap.size w w' := by
  obtain ⟨W1, hW1, X1, B1⟩ := rf_box w a R g cap
  obtain ⟨W2, hW2, X2, Y2, B2, Z2⟩ : ∃ W2, W1.alloc (.cells #[.int .i64 0, .int .i64 0, .int .i64 0, .int .i64 0, .slice none 0 0] 30) = W2 ∧ Blk W2 w.heap.size (rfA a R g cap) 30 ∧ Blk W2 (w.heap.size + 1) #[.int .i64 0, .int .i64 0, .int .i64 0, .int .i64 0, .slice none 0 0] 30 ∧ Below w.heap.size w W2 ∧ W2.heap.size = w.heap.size + 2 := by
    have hz : W1.heap.size = w.heap.size + 1 := by rw [← hW1]; simp
    exact ⟨_, rfl, X1.alloc _, blk_new _ _ _ _ hz.symm, B1.alloc (by omega) _, by simp [hz]⟩
  have hsz : W1.heap.size = w.heap.size + 1 := by rw [← hW1]; simp
  have L2 := h.below B2
  have c3 : W2.cell? ⟨w.heap.size, 3, none⟩ = some (.int .i64 0) := by rw [← h0]; exact X2.cell rfl
  have y0 := fun y : BW W2 => y.cell (show W2.cell? ⟨w.heap.size, 0, none⟩ = some (.int .i64 a.supply) from X2.cell rfl)
  have y1 := fun y : BW W2 => y.cell (show W2.cell? ⟨w.heap.size, 1, none⟩ = some (.int .i64 a.start) from X2.cell rfl)
  have y2 := fun y : BW W2 => y.cell (show W2.cell? ⟨w.heap.size, 2, none⟩ = some (.int .i64 a.step) from X2.cell rfl)
  have y3 := fun y : BW W2 => y.cell (show W2.cell? ⟨w.heap.size, 3, none⟩ = some (.int .i64 a.state) from X2.cell rfl)
  have y4 := fun y : BW W2 => y.cell (show W2.cell? ⟨w.heap.size, 4, none⟩ = some (.slice (some ⟨g, 0, none⟩) R cap) from X2.cell rfl)
  have hne := bw_some W2
  have h1 := h.one
  have hln := h.inv.len
  have HNow : Hid (∀ y : BW W2, _) := fun y : BW W2 => now_ref y.w (L2.below y.h)
  have HSum : Hid (∀ y : BW W2, Calls Try.prog 19 #[rs (R - 1)] y.w fun e w' => e = .returned (.int .i64 a.want) ∧ Below y.w.heap.size y.w w') := fun y => by
    have := Calls.belowOf (sum_calls (rs (R - 1)) (tab a.ds.length (nowOf a.ds)) y.w ((L2.below y.h).now) (by rw [tab_len]; omega) (sumSmall (by rw [tab_len]; omega) fun i hi => by
      rw [tab_len] at hi
      rw [tab_at _ hi]
      have := h.inv.dm i hi
      omega))
    rw [sumL_tab] at this
    exact this
  unfold rfV at HNow
  rw [show rfA a R g cap = #[.int .i64 a.supply, .int .i64 a.start, .int .i64 a.step, .int .i64 a.state, .slice (some ⟨g, 0, none⟩) R cap] from rfl] at HNow
  have HI : Hid _ := h.inv.next
  have HLw : Hid _ := fun wx (hb : Below w.heap.size w wx) => h.below hb
  generalize hwt : a.want = wt at *
  have HWT : Hid _ := hwt
  clear hwt
  generalize hu : rs (R - 1) = u at *
  have HU : Hid _ := hu
  clear hu
  have hI1 : Inv { a with state := 1 } := by
    have q := HI.out
    unfold Au.next at q
    rw [if_neg (fun e => e h0), if_pos (by rw [HWT.out]; exact hw)] at q
    exact q
  have HI : Hid _ := hI1
  have d1 : decide (wt ≤ a.supply) = true := decide_eq_true hw
  have H0 : Hid _ := h0
  clear h L2 X1 hI1 h0 c3
  unfold rfV
  rw [show rfA a R g cap = #[.int .i64 a.supply, .int .i64 a.start, .int .i64 a.step, .int .i64 a.state, .slice (some ⟨g, 0, none⟩) R cap] from rfl]
  go_enter Try.func15, Try.ntmps15
  have c3 : W2.cell? ⟨w.heap.size, 3, none⟩ = some (.int .i64 a.state) := X2.cell rfl
  have d0 : (a.state == 0) = true := by simpa using H0.out
  go_wp2_with fail
  clear d0
  refine wp_region_below (by kernel_rfl) (by kernel_rfl) ?_
  repeat (quiet_step (first | (go_at_call 20; exact BW.call _ (HNow.out _)) | (go_at_call 19; exact BW.call _ (HSum.out _))))
  refine wpQuiet_nil ?_
  rintro w4 ⟨⟨_, b4⟩, rfl⟩
  have X4 := X2.below b4
  have Y4 := Y2.below b4
  have z4 := b4.size
  have B4 : Below w.heap.size w w4 := B2.trans (b4.mono (by omega))
  clear y0 y1 y2 y3 y4 hne HNow HSum
  have c3' : w4.cell? ⟨w.heap.size, 3, none⟩ = some (.int .i64 a.state) := X4.cell rfl
  have f3' : w4.frozen? ⟨w.heap.size, 3, none⟩ = false := X4.frozen
  obtain ⟨W5, hW5, X5, Y5, B5⟩ : ∃ W5, w4.setCell ⟨w.heap.size, 3, none⟩ (.int .i64 1) = W5 ∧ Blk W5 w.heap.size (rfA { a with state := 1 } R g cap) 30 ∧ Blk W5 (w.heap.size + 1) #[.int .i64 0, .int .i64 0, .int .i64 0, .int .i64 0, .slice none 0 0] 30 ∧ Below w.heap.size w W5 := ⟨_, rfl, X4.set 3 _, Y4.setOther (p := ⟨w.heap.size, 3, none⟩) (by show w.heap.size + 1 ≠ w.heap.size; omega) _, B4.setCell (p := ⟨w.heap.size, 3, none⟩) (Nat.le_refl _) _⟩
  have e0 : W5.cell? ⟨w.heap.size, 0, none⟩ = some (.int .i64 a.supply) := X5.cell rfl
  have e1 : W5.cell? ⟨w.heap.size, 1, none⟩ = some (.int .i64 a.start) := X5.cell rfl
  have e2 : W5.cell? ⟨w.heap.size, 2, none⟩ = some (.int .i64 a.step) := X5.cell rfl
  have e3 : W5.cell? ⟨w.heap.size, 3, none⟩ = some (.int .i64 (1)) := X5.cell rfl
  have e4 : W5.cell? ⟨w.heap.size, 4, none⟩ = some (.slice (some ⟨g, 0, none⟩) R cap) := X5.cell rfl
  obtain ⟨W6, hW6, Y6, B6⟩ : ∃ W6, W5.setRow (w.heap.size + 1) (rfA { a with state := 1 } R g cap) = W6 ∧ Blk W6 (w.heap.size + 1) (rfA { a with state := 1 } R g cap) 30 ∧ Below w.heap.size w W6 := ⟨_, rfl, Y5.setRow _, below_setRow B5 _ _ (by omega)⟩
  have HRf : Hid (Rf W6 { a with state := 1 } R g cap rs) := by
    have q := HLw.out W6 B6
    exact ⟨q.rd, q.lt, q.cell, q.sl, q.now, q.was, q.cp, HI.out, q.nowT, q.wasT⟩
  clear X5
  go_wp2_with ((with_reducible refine st_row (ty := 30) (cs' := rfA { a with state := 1 } R g cap) Y5 (rf_info _ _ _ _) (rf_same _ _ _ _) (rf_one _ _ _ _) hW6 ?_ ?_ ?_); rfl; rfl)
  have s0 : W6.cell? ⟨w.heap.size + 1, 0, none⟩ = some (.int .i64 (a.supply)) := Y6.cell rfl
  have s1 : W6.cell? ⟨w.heap.size + 1, 1, none⟩ = some (.int .i64 (a.start)) := Y6.cell rfl
  have s2 : W6.cell? ⟨w.heap.size + 1, 2, none⟩ = some (.int .i64 (a.step)) := Y6.cell rfl
  have s3 : W6.cell? ⟨w.heap.size + 1, 3, none⟩ = some (.int .i64 (1)) := Y6.cell rfl
  have s4 : W6.cell? ⟨w.heap.size + 1, 4, none⟩ = some (.slice (some ⟨g, 0, none⟩) R cap) := Y6.cell rfl
  try simp only [Exit.inBlock, Exit.then]
  refine bodyPost_ret (by simp [results, Try.results15, go_sem, s0, s1, s2, s3, s4]; rfl) rfl ?_
  exact ⟨rfl, HRf.out, B6⟩

set_option maxRecDepth 100000 in
set_option maxHeartbeats 2000000 in
theorem next_void (w : World) (h : Rf w a R g cap rs) (h0 : a.state = 0) (hw : ¬ a.want ≤ a.supply) (hv : 1099511627776 < a.price + a.step) : Calls Try.prog 15 #[rfV a R g cap] w fun e w' => e = .returned (.tuple #[rfV { a with state := 2 } R g cap, .int .i64 0]) ∧ Rf w' { a with state := 2 } R g cap rs ∧ Below w.heap.size w w' := by
  obtain ⟨W1, hW1, X1, B1⟩ := rf_box w a R g cap
  obtain ⟨W2, hW2, X2, Y2, B2, Z2⟩ : ∃ W2, W1.alloc (.cells #[.int .i64 0, .int .i64 0, .int .i64 0, .int .i64 0, .slice none 0 0] 30) = W2 ∧ Blk W2 w.heap.size (rfA a R g cap) 30 ∧ Blk W2 (w.heap.size + 1) #[.int .i64 0, .int .i64 0, .int .i64 0, .int .i64 0, .slice none 0 0] 30 ∧ Below w.heap.size w W2 ∧ W2.heap.size = w.heap.size + 2 := by
    have hz : W1.heap.size = w.heap.size + 1 := by rw [← hW1]; simp
    exact ⟨_, rfl, X1.alloc _, blk_new _ _ _ _ hz.symm, B1.alloc (by omega) _, by simp [hz]⟩
  have hsz : W1.heap.size = w.heap.size + 1 := by rw [← hW1]; simp
  have L2 := h.below B2
  have c3 : W2.cell? ⟨w.heap.size, 3, none⟩ = some (.int .i64 0) := by rw [← h0]; exact X2.cell rfl
  have y0 := fun y : BW W2 => y.cell (show W2.cell? ⟨w.heap.size, 0, none⟩ = some (.int .i64 a.supply) from X2.cell rfl)
  have y1 := fun y : BW W2 => y.cell (show W2.cell? ⟨w.heap.size, 1, none⟩ = some (.int .i64 a.start) from X2.cell rfl)
  have y2 := fun y : BW W2 => y.cell (show W2.cell? ⟨w.heap.size, 2, none⟩ = some (.int .i64 a.step) from X2.cell rfl)
  have y3 := fun y : BW W2 => y.cell (show W2.cell? ⟨w.heap.size, 3, none⟩ = some (.int .i64 a.state) from X2.cell rfl)
  have y4 := fun y : BW W2 => y.cell (show W2.cell? ⟨w.heap.size, 4, none⟩ = some (.slice (some ⟨g, 0, none⟩) R cap) from X2.cell rfl)
  have hne := bw_some W2
  have h1 := h.one
  have hln := h.inv.len
  have HNow : Hid (∀ y : BW W2, _) := fun y : BW W2 => now_ref y.w (L2.below y.h)
  have HSum : Hid (∀ y : BW W2, Calls Try.prog 19 #[rs (R - 1)] y.w fun e w' => e = .returned (.int .i64 a.want) ∧ Below y.w.heap.size y.w w') := fun y => by
    have := Calls.belowOf (sum_calls (rs (R - 1)) (tab a.ds.length (nowOf a.ds)) y.w ((L2.below y.h).now) (by rw [tab_len]; omega) (sumSmall (by rw [tab_len]; omega) fun i hi => by
      rw [tab_len] at hi
      rw [tab_at _ hi]
      have := h.inv.dm i hi
      omega))
    rw [sumL_tab] at this
    exact this
  unfold rfV at HNow
  rw [show rfA a R g cap = #[.int .i64 a.supply, .int .i64 a.start, .int .i64 a.step, .int .i64 a.state, .slice (some ⟨g, 0, none⟩) R cap] from rfl] at HNow
  have HI : Hid _ := h.inv.next
  have HLw : Hid _ := fun wx (hb : Below w.heap.size w wx) => h.below hb
  generalize hwt : a.want = wt at *
  have HWT : Hid _ := hwt
  clear hwt
  generalize hu : rs (R - 1) = u at *
  have HU : Hid _ := hu
  clear hu
  have hI1 : Inv { a with state := 2 } := by
    have q := HI.out
    unfold Au.next at q
    rw [if_neg (fun e => e h0), if_neg (by rw [HWT.out]; exact hw), if_pos hv] at q
    exact q
  have HI : Hid _ := hI1
  have d1 : decide (wt ≤ a.supply) = false := decide_eq_false hw
  have p0 := h.inv.price0
  have p1 := h.inv.sp
  have HPr : Hid _ := fun wx (hb : Below w.heap.size w wx) => price_ref wx (h.below hb)
  unfold rfV at HPr
  rw [show rfA a R g cap = #[.int .i64 a.supply, .int .i64 a.start, .int .i64 a.step, .int .i64 a.state, .slice (some ⟨g, 0, none⟩) R cap] from rfl] at HPr
  generalize a.price = pr at *
  have hwl : IntKind.i64.wrap (1099511627776 - a.step) = 1099511627776 - a.step := by rw [IntKind.wrap_i64]; omega
  have d2 : decide (1099511627776 - a.step < pr) = true := decide_eq_true (by omega)
  have H0 : Hid _ := h0
  clear h L2 X1 hI1 h0 c3
  unfold rfV
  rw [show rfA a R g cap = #[.int .i64 a.supply, .int .i64 a.start, .int .i64 a.step, .int .i64 a.state, .slice (some ⟨g, 0, none⟩) R cap] from rfl]
  go_enter Try.func15, Try.ntmps15
  have c3 : W2.cell? ⟨w.heap.size, 3, none⟩ = some (.int .i64 a.state) := X2.cell rfl
  have d0 : (a.state == 0) = true := by simpa using H0.out
  go_wp2_with fail
  clear d0
  refine wp_region_below (by kernel_rfl) (by kernel_rfl) ?_
  repeat (quiet_step (first | (go_at_call 20; exact BW.call _ (HNow.out _)) | (go_at_call 19; exact BW.call _ (HSum.out _))))
  refine wpQuiet_nil ?_
  rintro w4 ⟨⟨_, b4⟩, rfl⟩
  have X4 := X2.below b4
  have Y4 := Y2.below b4
  have z4 := b4.size
  have B4 : Below w.heap.size w w4 := B2.trans (b4.mono (by omega))
  clear y0 y1 y2 y3 y4 hne HNow HSum
  have y0 := fun y : BW w4 => y.cell (show w4.cell? ⟨w.heap.size, 0, none⟩ = some (.int .i64 a.supply) from X4.cell rfl)
  have y1 := fun y : BW w4 => y.cell (show w4.cell? ⟨w.heap.size, 1, none⟩ = some (.int .i64 a.start) from X4.cell rfl)
  have y2 := fun y : BW w4 => y.cell (show w4.cell? ⟨w.heap.size, 2, none⟩ = some (.int .i64 a.step) from X4.cell rfl)
  have y3 := fun y : BW w4 => y.cell (show w4.cell? ⟨w.heap.size, 3, none⟩ = some (.int .i64 a.state) from X4.cell rfl)
  have y4 := fun y : BW w4 => y.cell (show w4.cell? ⟨w.heap.size, 4, none⟩ = some (.slice (some ⟨g, 0, none⟩) R cap) from X4.cell rfl)
  have hne := bw_some w4
  have HP4 : Hid (∀ y : BW w4, _) := fun y : BW w4 => HPr.out y.w (B4.trans (y.h.mono B4.size))
  go_wp2_with fail
  refine wp_region_below (by kernel_rfl) (by kernel_rfl) ?_
  repeat (quiet_step (first | (go_at_call 21; exact BW.call _ (HP4.out _))))
  refine wpQuiet_nil ?_
  rintro w5 ⟨⟨_, b5⟩, rfl⟩
  have X5' := X4.below b5
  have Y5' := Y4.below b5
  have B5' : Below w.heap.size w w5 := B4.trans (b5.mono B4.size)
  have z5 := b5.size
  clear y0 y1 y2 y3 y4 hne HP4 HPr
  have c3' : w5.cell? ⟨w.heap.size, 3, none⟩ = some (.int .i64 a.state) := X5'.cell rfl
  have f3' : w5.frozen? ⟨w.heap.size, 3, none⟩ = false := X5'.frozen
  obtain ⟨W5, hW5, X5, Y5, B5⟩ : ∃ W5, w5.setCell ⟨w.heap.size, 3, none⟩ (.int .i64 2) = W5 ∧ Blk W5 w.heap.size (rfA { a with state := 2 } R g cap) 30 ∧ Blk W5 (w.heap.size + 1) #[.int .i64 0, .int .i64 0, .int .i64 0, .int .i64 0, .slice none 0 0] 30 ∧ Below w.heap.size w W5 := ⟨_, rfl, X5'.set 3 _, Y5'.setOther (p := ⟨w.heap.size, 3, none⟩) (by show w.heap.size + 1 ≠ w.heap.size; omega) _, B5'.setCell (p := ⟨w.heap.size, 3, none⟩) (Nat.le_refl _) _⟩
  have e0 : W5.cell? ⟨w.heap.size, 0, none⟩ = some (.int .i64 a.supply) := X5.cell rfl
  have e1 : W5.cell? ⟨w.heap.size, 1, none⟩ = some (.int .i64 a.start) := X5.cell rfl
  have e2 : W5.cell? ⟨w.heap.size, 2, none⟩ = some (.int .i64 a.step) := X5.cell rfl
  have e3 : W5.cell? ⟨w.heap.size, 3, none⟩ = some (.int .i64 (2)) := X5.cell rfl
  have e4 : W5.cell? ⟨w.heap.size, 4, none⟩ = some (.slice (some ⟨g, 0, none⟩) R cap) := X5.cell rfl
  obtain ⟨W6, hW6, Y6, B6⟩ : ∃ W6, W5.setRow (w.heap.size + 1) (rfA { a with state := 2 } R g cap) = W6 ∧ Blk W6 (w.heap.size + 1) (rfA { a with state := 2 } R g cap) 30 ∧ Below w.heap.size w W6 := ⟨_, rfl, Y5.setRow _, below_setRow B5 _ _ (by omega)⟩
  have HRf : Hid (Rf W6 { a with state := 2 } R g cap rs) := by
    have q := HLw.out W6 B6
    exact ⟨q.rd, q.lt, q.cell, q.sl, q.now, q.was, q.cp, HI.out, q.nowT, q.wasT⟩
  clear X5
  go_wp2_with ((with_reducible refine st_row (ty := 30) (cs' := rfA { a with state := 2 } R g cap) Y5 (rf_info _ _ _ _) (rf_same _ _ _ _) (rf_one _ _ _ _) hW6 ?_ ?_ ?_); rfl; rfl)
  have s0 : W6.cell? ⟨w.heap.size + 1, 0, none⟩ = some (.int .i64 (a.supply)) := Y6.cell rfl
  have s1 : W6.cell? ⟨w.heap.size + 1, 1, none⟩ = some (.int .i64 (a.start)) := Y6.cell rfl
  have s2 : W6.cell? ⟨w.heap.size + 1, 2, none⟩ = some (.int .i64 (a.step)) := Y6.cell rfl
  have s3 : W6.cell? ⟨w.heap.size + 1, 3, none⟩ = some (.int .i64 (2)) := Y6.cell rfl
  have s4 : W6.cell? ⟨w.heap.size + 1, 4, none⟩ = some (.slice (some ⟨g, 0, none⟩) R cap) := Y6.cell rfl
  try simp only [Exit.inBlock, Exit.then]
  refine bodyPost_ret (by simp [results, Try.results15, go_sem, s0, s1, s2, s3, s4]; rfl) rfl ?_
  exact ⟨rfl, HRf.out, B6⟩

theorem own_keep {w : World} {base n z : Nat} {t : TypeId} {v : Value} {xs : List Value} (h : w.ownsRow base t z v n xs) {k o : Nat} (hk : k < base) {u : Value} : (w.setCell ⟨k, o, none⟩ u).ownsRow base t z v n xs := by
  obtain ⟨h1, h2⟩ := h
  rcases h2 with h2 | ⟨g, cap, cur, rfl, hb, hg, rest⟩
  · exact ⟨h1, Or.inl h2⟩
  · exact ⟨h1, Or.inr ⟨g, cap, cur, rfl, hb, (heap_setCell_other w ⟨k, o, none⟩ g u (by show g ≠ k; omega)).trans hg, rest⟩⟩
set_option maxRecDepth 100000 in
set_option maxHeartbeats 4000000 in
theorem next_on (w : World) (h : Rf w a R g cap rs) (h0 : a.state = 0) (hw : ¬ a.want ≤ a.supply) (hv : ¬ 1099511627776 < a.price + a.step) : Calls Try.prog 15 #[rfV a R g cap] w fun e w' => ∃ g' cap' rs', e = .returned (.tuple #[rfV a.begin (R + 1) g' cap', .int .i64 0]) ∧ Rf w' a.begin (R + 1) g' cap' rs' ∧ Below w.heap.size w w' := by
  obtain ⟨i0, hi, hz0, hz1, hz2⟩ := info_parts infoSl
  obtain ⟨W1, hW1, X1, B1⟩ := rf_box w a R g cap
  obtain ⟨W2, hW2, X2, Y2, B2, Z2⟩ : ∃ W2, W1.alloc (.cells #[.int .i64 0, .int .i64 0, .int .i64 0, .int .i64 0, .slice none 0 0] 30) = W2 ∧ Blk W2 w.heap.size (rfA a R g cap) 30 ∧ Blk W2 (w.heap.size + 1) #[.int .i64 0, .int .i64 0, .int .i64 0, .int .i64 0, .slice none 0 0] 30 ∧ Below w.heap.size w W2 ∧ W2.heap.size = w.heap.size + 2 := by
    have hz : W1.heap.size = w.heap.size + 1 := by rw [← hW1]; simp
    exact ⟨_, rfl, X1.alloc _, blk_new _ _ _ _ hz.symm, B1.alloc (by omega) _, by simp [hz]⟩
  have hsz : W1.heap.size = w.heap.size + 1 := by rw [← hW1]; simp
  have L2 := h.below B2
  have c3 : W2.cell? ⟨w.heap.size, 3, none⟩ = some (.int .i64 0) := by rw [← h0]; exact X2.cell rfl
  have y0 := fun y : BW W2 => y.cell (show W2.cell? ⟨w.heap.size, 0, none⟩ = some (.int .i64 a.supply) from X2.cell rfl)
  have y1 := fun y : BW W2 => y.cell (show W2.cell? ⟨w.heap.size, 1, none⟩ = some (.int .i64 a.start) from X2.cell rfl)
  have y2 := fun y : BW W2 => y.cell (show W2.cell? ⟨w.heap.size, 2, none⟩ = some (.int .i64 a.step) from X2.cell rfl)
  have y3 := fun y : BW W2 => y.cell (show W2.cell? ⟨w.heap.size, 3, none⟩ = some (.int .i64 a.state) from X2.cell rfl)
  have y4 := fun y : BW W2 => y.cell (show W2.cell? ⟨w.heap.size, 4, none⟩ = some (.slice (some ⟨g, 0, none⟩) R cap) from X2.cell rfl)
  have hne := bw_some W2
  have h1 := h.one
  have hln := h.inv.len
  have HNow : Hid (∀ y : BW W2, _) := fun y : BW W2 => now_ref y.w (L2.below y.h)
  have HSum : Hid (∀ y : BW W2, Calls Try.prog 19 #[rs (R - 1)] y.w fun e w' => e = .returned (.int .i64 a.want) ∧ Below y.w.heap.size y.w w') := fun y => by
    have := Calls.belowOf (sum_calls (rs (R - 1)) (tab a.ds.length (nowOf a.ds)) y.w ((L2.below y.h).now) (by rw [tab_len]; omega) (sumSmall (by rw [tab_len]; omega) fun i hi => by
      rw [tab_len] at hi
      rw [tab_at _ hi]
      have := h.inv.dm i hi
      omega))
    rw [sumL_tab] at this
    exact this
  unfold rfV at HNow
  rw [show rfA a R g cap = #[.int .i64 a.supply, .int .i64 a.start, .int .i64 a.step, .int .i64 a.state, .slice (some ⟨g, 0, none⟩) R cap] from rfl] at HNow
  have HI : Hid _ := h.inv.next
  have HLw : Hid _ := fun wx (hb : Below w.heap.size w wx) => h.below hb
  generalize hwt : a.want = wt at *
  have HWT : Hid _ := hwt
  clear hwt
  generalize hu : rs (R - 1) = u at *
  have HU : Hid _ := hu
  clear hu
  have hI1 : Inv a.begin := by
    have q := HI.out
    unfold Au.next at q
    rw [if_neg (fun e => e h0), if_neg (by rw [HWT.out]; exact hw), if_neg hv] at q
    exact q
  have HI : Hid _ := hI1
  have d1 : decide (wt ≤ a.supply) = false := decide_eq_false hw
  have p0 := h.inv.price0
  have p1 := h.inv.sp
  have HPr : Hid _ := fun wx (hb : Below w.heap.size w wx) => price_ref wx (h.below hb)
  unfold rfV at HPr
  rw [show rfA a R g cap = #[.int .i64 a.supply, .int .i64 a.start, .int .i64 a.step, .int .i64 a.state, .slice (some ⟨g, 0, none⟩) R cap] from rfl] at HPr
  generalize a.price = pr at *
  have hwl : IntKind.i64.wrap (1099511627776 - a.step) = 1099511627776 - a.step := by rw [IntKind.wrap_i64]; omega
  have d2 : decide (1099511627776 - a.step < pr) = false := decide_eq_false (by omega)
  have HN2 : Hid _ := fun wx (hb : Below w.heap.size w wx) => now_ref wx (h.below hb)
  unfold rfV at HN2
  rw [show rfA a R g cap = #[.int .i64 a.supply, .int .i64 a.start, .int .i64 a.step, .int .i64 a.state, .slice (some ⟨g, 0, none⟩) R cap] from rfl, HU.out] at HN2
  have hgl := h.lt
  have hu2 : ∃ c n cp, u = .slice c n cp := by rw [← HU.out]; exact h.sl (R - 1) (by omega)
  obtain ⟨uc, un, ucp, hu2⟩ := hu2
  have HSL : Hid _ := hu2
  have H0 : Hid _ := h0
  clear h L2 X1 hI1 hu2 h0 c3
  unfold rfV
  rw [show rfA a R g cap = #[.int .i64 a.supply, .int .i64 a.start, .int .i64 a.step, .int .i64 a.state, .slice (some ⟨g, 0, none⟩) R cap] from rfl]
  go_enter Try.func15, Try.ntmps15
  have c3 : W2.cell? ⟨w.heap.size, 3, none⟩ = some (.int .i64 a.state) := X2.cell rfl
  have d0 : (a.state == 0) = true := by simpa using H0.out
  go_wp2_with fail
  clear d0
  refine wp_region_below (by kernel_rfl) (by kernel_rfl) ?_
  repeat (quiet_step (first | (go_at_call 20; exact BW.call _ (HNow.out _)) | (go_at_call 19; exact BW.call _ (HSum.out _))))
  refine wpQuiet_nil ?_
  rintro w4 ⟨⟨_, b4⟩, rfl⟩
  have X4 := X2.below b4
  have Y4 := Y2.below b4
  have z4 := b4.size
  have B4 : Below w.heap.size w w4 := B2.trans (b4.mono (by omega))
  clear y0 y1 y2 y3 y4 hne HNow HSum
  have y0 := fun y : BW w4 => y.cell (show w4.cell? ⟨w.heap.size, 0, none⟩ = some (.int .i64 a.supply) from X4.cell rfl)
  have y1 := fun y : BW w4 => y.cell (show w4.cell? ⟨w.heap.size, 1, none⟩ = some (.int .i64 a.start) from X4.cell rfl)
  have y2 := fun y : BW w4 => y.cell (show w4.cell? ⟨w.heap.size, 2, none⟩ = some (.int .i64 a.step) from X4.cell rfl)
  have y3 := fun y : BW w4 => y.cell (show w4.cell? ⟨w.heap.size, 3, none⟩ = some (.int .i64 a.state) from X4.cell rfl)
  have y4 := fun y : BW w4 => y.cell (show w4.cell? ⟨w.heap.size, 4, none⟩ = some (.slice (some ⟨g, 0, none⟩) R cap) from X4.cell rfl)
  have hne := bw_some w4
  have HP4 : Hid (∀ y : BW w4, _) := fun y : BW w4 => HPr.out y.w (B4.trans (y.h.mono B4.size))
  go_wp2_with fail
  refine wp_region_below (by kernel_rfl) (by kernel_rfl) ?_
  repeat (quiet_step (first | (go_at_call 21; exact BW.call _ (HP4.out _))))
  refine wpQuiet_nil ?_
  rintro w5 ⟨⟨_, b5⟩, rfl⟩
  have X5' := X4.below b5
  have Y5' := Y4.below b5
  have B5' : Below w.heap.size w w5 := B4.trans (b5.mono B4.size)
  have z5 := b5.size
  clear y0 y1 y2 y3 y4 hne HP4 HPr
  have h5 := HLw.out w5 B5'
  have g4 : w5.cell? ⟨w.heap.size, 4, none⟩ = some (.slice (some ⟨g, 0, none⟩) R cap) := X5'.cell rfl
  go_wp2_with (at_builtin; refine wpList_append_own _ rfl (.tmp 25) (.tmp 27) 28 rfl (w.heap.size + 2) 43 i0 (.slice none 0 0) 1 24 Try.underlying28 hi hz0 hz1 hz2 rfl (by decide) (.slice none 0 0) 0 [] rfl (World.ownsRow_nil _ _ _ _) ⟨g, 0, none⟩ R cap (rsL rs R) rfl (rsL_len rs R) ?c1 ?c2 ?c3 ?c4 ?c5 ?_)
  case c1 => exact rsL_cells h5 (Nat.le_refl _)
  case c2 => exact rsL_one h5 (Nat.le_refl _)
  case c3 => unfold maxLen; omega
  case c4 => omega
  case c5 => omega
  intro v6 w6 ho6 hg6 _
  try simp only [Nat.zero_add, List.nil_append] at ho6
  have B6 : Below w.heap.size w w6 := below_grownC B5' hg6 (fun k hk => by cases hk) (by omega)
  have X6 : Blk w6 w.heap.size (rfA a R g cap) 30 := (hg6.block _ X5'.lt (fun e => by cases e)).trans X5'
  have Y6 : Blk w6 (w.heap.size + 1) #[.int .i64 0, .int .i64 0, .int .i64 0, .int .i64 0, .slice none 0 0] 30 := (hg6.block _ Y5'.lt (fun e => by cases e)).trans Y5'
  have e0 : w6.cell? ⟨w.heap.size, 0, none⟩ = some (.int .i64 a.supply) := X6.cell rfl
  have e1 : w6.cell? ⟨w.heap.size, 1, none⟩ = some (.int .i64 a.start) := X6.cell rfl
  have e2 : w6.cell? ⟨w.heap.size, 2, none⟩ = some (.int .i64 a.step) := X6.cell rfl
  have e3 : w6.cell? ⟨w.heap.size, 3, none⟩ = some (.int .i64 (a.state)) := X6.cell rfl
  have e4 : w6.cell? ⟨w.heap.size, 4, none⟩ = some (.slice (some ⟨g, 0, none⟩) R cap) := X6.cell rfl
  have HO6 : Hid _ := ho6
  have HNw := HN2.out w6 B6
  clear ho6 h5
  go_wp2_with fail
  refine HNw.mono ?_
  rintro e w7 ⟨rfl, b7⟩
  have z6 := B6.size
  have z7 := b7.size
  have z66 := hg6.size
  have o7 := own_belowL HO6.out b7
  have HO7 : Hid _ := o7
  have X7 := X6.below b7
  have Y7 := Y6.below b7
  have B7 : Below w.heap.size w w7 := B6.trans (b7.mono z6)
  clear o7 HO6 HNw b7
  have hus := HSL.out
  subst hus
  go_wp2_with (at_builtin; refine wpList_append_own _ rfl (.tmp 29) (.tmp 32) 28 rfl (w.heap.size + 2) 43 i0 (.slice none 0 0) 1 24 Try.underlying28 hi hz0 hz1 hz2 rfl (by decide) _ _ _ rfl (World.ownsRow.alloc HO7.out _) ⟨w7.heap.size, 0, none⟩ 1 1 [.slice uc un ucp] rfl rfl ?c1 ?c2 ?c3 ?c4 ?c5 ?_)
  case c1 => exact cell_one_new _ _ _
  case c2 => intro x hx; simp at hx; subst hx; rfl
  case c3 => unfold maxLen; omega
  case c4 => omega
  case c5 => simp; omega
  intro v8 w8 ho8 hg8 _
  have B8 : Below w.heap.size w w8 := below_grownC (B7.alloc (by omega) _) hg8 (fun q hq => by have := (World.ownsRow.lt HO7.out q hq).1; omega) (by simp; omega)
  have nx : ∀ k, k < w.heap.size + 2 → k < w7.heap.size → w8.heap[k]? = w7.heap[k]? := fun k hk hk2 => by
    have q1 := hg8.block k (by simp; omega) (fun e => by have := (World.ownsRow.lt HO7.out k e.symm).1; omega)
    exact q1.trans (((Below.refl w7.heap.size w7).alloc (Nat.le_refl _) _).block k hk2)
  have X8 : Blk w8 w.heap.size (rfA a R g cap) 30 := (nx _ (by omega) X7.lt).trans X7
  have Y8 : Blk w8 (w.heap.size + 1) #[.int .i64 0, .int .i64 0, .int .i64 0, .int .i64 0, .slice none 0 0] 30 := (nx _ (by omega) Y7.lt).trans Y7
  obtain ⟨g', cap', rfl, hgb, hgw, hcp, hcl⟩ := own_row ho8 (by omega)
  have m4 : w8.cell? ⟨w.heap.size, 4, none⟩ = some (.slice (some ⟨g, 0, none⟩) R cap) := X8.cell rfl
  have mf : w8.frozen? ⟨w.heap.size, 4, none⟩ = false := X8.frozen
  obtain ⟨W9, hW9, X9, Y9, B9, G9⟩ : ∃ W9, w8.setCell ⟨w.heap.size, 4, none⟩ (.slice (some ⟨g', 0, none⟩) (R + 1) cap') = W9 ∧ Blk W9 w.heap.size (rfA a.begin (R + 1) g' cap') 30 ∧ Blk W9 (w.heap.size + 1) #[.int .i64 0, .int .i64 0, .int .i64 0, .int .i64 0, .slice none 0 0] 30 ∧ Below w.heap.size w W9 ∧ ∀ i, W9.cell? ⟨g', i, none⟩ = w8.cell? ⟨g', i, none⟩ := ⟨_, rfl, X8.set 4 _, Y8.setOther (p := ⟨w.heap.size, 4, none⟩) (by show w.heap.size + 1 ≠ w.heap.size; omega) _, B8.setCell (p := ⟨w.heap.size, 4, none⟩) (Nat.le_refl _) _, fun i => World.cell?_setCell_other _ _ _ _ (by intro e; injection e with e1; omega)⟩
  have r0 : W9.cell? ⟨w.heap.size, 0, none⟩ = some (.int .i64 a.supply) := X9.cell rfl
  have r1 : W9.cell? ⟨w.heap.size, 1, none⟩ = some (.int .i64 a.start) := X9.cell rfl
  have r2 : W9.cell? ⟨w.heap.size, 2, none⟩ = some (.int .i64 a.step) := X9.cell rfl
  have r3 : W9.cell? ⟨w.heap.size, 3, none⟩ = some (.int .i64 a.state) := X9.cell rfl
  have r4 : W9.cell? ⟨w.heap.size, 4, none⟩ = some (.slice (some ⟨g', 0, none⟩) (R + 1) cap') := X9.cell rfl
  obtain ⟨W10, hW10, Y10, B10⟩ : ∃ W10, W9.setRow (w.heap.size + 1) (rfA a.begin (R + 1) g' cap') = W10 ∧ Blk W10 (w.heap.size + 1) (rfA a.begin (R + 1) g' cap') 30 ∧ Below w.heap.size w W10 := ⟨_, rfl, Y9.setRow _, below_setRow B9 _ _ (by omega)⟩
  have HRf : Hid (Rf W10 a.begin (R + 1) g' cap' (fun i => if i < R then rs i else .slice uc un ucp)) := by
    have q := HLw.out W10 B10
    have hg10 : W10.heap[g']? = w8.heap[g']? := by
      have e1 : W10.heap[g']? = W9.heap[g']? := by rw [← hW10]; exact setRow_other _ _ _ _ (by omega)
      have e2 : W9.heap[g']? = w8.heap[g']? := by rw [← hW9]; exact heap_setCell_other _ _ _ _ (by show g' ≠ w.heap.size; omega)
      exact e1.trans e2
    have hl : a.begin.ds.length = a.ds.length := by simp [Au.begin, roll_len]
    have hnow : Rd W10 (.slice uc un ucp) (tab a.ds.length (nowOf a.ds)) := by
      have := q.now
      rw [HU.out] at this
      exact this
    refine ⟨?_, ?_, fun i hi => ?_, fun i hi => ?_, ?_, fun _ => ?_, hcp, HI.out, ?_, fun _ => ?_⟩
    · show a.round + 1 = _; rw [q.rd]; push_cast; rfl
    · rcases Nat.lt_or_ge g' W10.heap.size with k | k
      · exact k
      · rw [Array.getElem?_eq_none k] at hg10
        have := Array.getElem?_eq_none_iff.1 hg10.symm
        omega
    · have e : W10.cell? ⟨g', i, none⟩ = w8.cell? ⟨g', i, none⟩ := World.cell?_of_block (w := w8) (a := ⟨g', i, none⟩) hg10
      rw [e]
      refine hcl i _ ?_
      by_cases k : i < R
      · rw [if_pos k, List.getElem?_append_left (by rw [rsL_len]; omega), rsL_at rs k]
      · rw [if_neg k, List.getElem?_append_right (by rw [rsL_len]; omega), rsL_len]
        have : i - R * 1 = 0 := by omega
        rw [this]; rfl
    · by_cases k : i < R
      · simp only [if_pos k]; exact q.sl i k
      · simp only [if_neg k]; exact ⟨_, _, _, rfl⟩
    · have e : R + 1 - 1 = R := by omega
      rw [e]
      simp only [Nat.lt_irrefl, if_false]
      rw [hl, tab_congr (f := nowOf a.begin.ds) (f' := nowOf a.ds) fun i hi => nowOf_roll a.ds hi]
      exact hnow
    · have e : R + 1 - 2 = R - 1 := by omega
      rw [e]
      have k : R - 1 < R := by omega
      simp only [if_pos k]
      rw [hl, tab_congr (f := wasOf a.begin.ds) (f' := nowOf a.ds) fun i hi => wasOf_roll a.ds hi, HU.out]
      exact hnow
    · have e : R + 1 - 1 = R := by omega
      rw [e]
      simp only [Nat.lt_irrefl, if_false]
      rw [← HU.out]
      exact q.nowT
    · have e : R + 1 - 2 = R - 1 := by omega
      rw [e]
      have k : R - 1 < R := by omega
      simp only [if_pos k]
      exact q.nowT
  clear X9 G9 hcl ho8 X8 Y8
  go_wp2_with ((with_reducible refine st_row (ty := 30) (cs' := rfA a.begin (R + 1) g' cap') Y9 (rf_info _ _ _ _) (rf_same _ _ _ _) (rf_one _ _ _ _) hW10 ?_ ?_ ?_); rfl; rfl)
  have s0 : W10.cell? ⟨w.heap.size + 1, 0, none⟩ = some (.int .i64 (a.supply)) := Y10.cell rfl
  have s1 : W10.cell? ⟨w.heap.size + 1, 1, none⟩ = some (.int .i64 (a.start)) := Y10.cell rfl
  have s2 : W10.cell? ⟨w.heap.size + 1, 2, none⟩ = some (.int .i64 (a.step)) := Y10.cell rfl
  have s3 : W10.cell? ⟨w.heap.size + 1, 3, none⟩ = some (.int .i64 (a.state)) := Y10.cell rfl
  have s4 : W10.cell? ⟨w.heap.size + 1, 4, none⟩ = some (.slice (some ⟨g', 0, none⟩) (R + 1) cap') := Y10.cell rfl
  try simp only [Exit.inBlock, Exit.then]
  refine bodyPost_ret (by simp [results, Try.results15, go_sem, s0, s1, s2, s3, s4]; rfl) rfl ?_
  exact ⟨g', cap', _, rfl, HRf.out, B10⟩
end Go.Proofs.Yteinfckkpkbnlaa
