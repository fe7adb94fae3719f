/- The document's auction: Bid that is taken. -/
import Derived.Test.YteinfckkpkbnlaaCkRb

namespace Go.Proofs.Yteinfckkpkbnlaa
open Go.RowKit
set_option linter.unusedSimpArgs false
set_option linter.unusedVariables false
variable {a : Au} {R g cap : Nat} {rs : Nat → Value}

theorem append_emptyR (p : Option Addr) (c : Nat) (w : World) : (Builtin.append_ #[28, 28] 28 #[.slice none 0 0, .slice p 0 c]).run Try.prog w = .ok (.slice none 0 0) w := by
  cases p with
  | none => kernel_rfl
  | some a => kernel_rfl
theorem wpList_append_givenR (w : World) {ops : Array Oper} {rest : List Oper} {o : Oper} {a : Act} {Q : Exit → Act → World → Prop} (hgd : o.guard = none) (s x : Operand) (t : TypeId)
    (ho : o.op = .call { callee := .builtin .append, args := #[s, x], argTypes := #[t, t] }) (v u : Value) (hs : a.eval s = v) (hx : a.eval x = u) {v' : Value} {w' : World}
    (hr : (Builtin.append_ #[t, t] o.type #[v, u]).run Try.prog w = .ok v' w') (h : wpList Try.prog ops Q rest (a.put o.dst v') w') : wpList Try.prog ops Q (o :: rest) a w :=
  wpList_plain hgd fun K hK => by
    unfold Oper.wp execOp
    simp only [ho, resolve, invoke, builtin, Sem.run_bind, Sem.run_pure, Result.andThen_ok, List.map_toArray, List.map_cons, List.map_nil, hs, hx, hr]
    exact hK _ _ h
theorem iL_cells {w : World} {gu off : Nat} {l : List Int} (hc : ∀ i, i < l.length → w.cell? ⟨gu, off + i, none⟩ = some (.int .i64 (gAt l i))) : ∀ j u, (iL l)[j]? = some u → w.cell? ((⟨gu, off, none⟩ : Addr).add j) = some u := by
  intro j u hj
  have hjl : j < l.length := by
    have := (List.getElem?_eq_some_iff.1 hj).1
    simpa [iL] using this
  have e : (iL l)[j]? = some (.int .i64 (gAt l j)) := by rw [gAt_eq hjl]; simp [iL, hjl]
  rw [e] at hj
  cases hj
  rw [Addr.add_lit]
  exact hc j hjl
theorem own_apart {w : World} {B n : Nat} {v : Value} {xs : List Value} (h : w.ownsRow B 43 1 v n xs) {g : Nat} {cur : Array Value} (X : Blk w g cur 3) {o : Nat} {u : Value} : (w.setCell ⟨g, o, none⟩ u).ownsRow B 43 1 v n xs := by
  obtain ⟨h1, h2⟩ := h
  rcases h2 with h2 | ⟨g', cap, cur', rfl, hb, hg, rest⟩
  · exact ⟨h1, Or.inl h2⟩
  · refine ⟨h1, Or.inr ⟨g', cap, cur', rfl, hb, (heap_setCell_other w ⟨g, o, none⟩ g' u ?_).trans hg, rest⟩⟩
    show g' ≠ g
    intro e
    subst e
    unfold Blk at X
    rw [hg] at X
    injection X with X
    injection X with _ X2
    revert X2; decide

theorem Rwn.block' {w : World} {B : Nat} {v : Value} {l : List Int} (h : Rwn w B v l) (hl : 1 ≤ l.length) : ∃ g cap cur, v = .slice (some ⟨g, 0, none⟩) l.length cap ∧ B ≤ g ∧ Blk w g cur 3 ∧ ∀ i, i < l.length → cur[i]? = some (.int .i64 (gAt l i)) := by
  rcases h with ⟨_, rfl⟩ | h
  · exact absurd hl (by simp)
  · exact h
def Au.put (a : Au) (k : Nat) (n : Int) : Au := { a with ds := a.ds.set k ⟨wasOf a.ds k, n⟩ }

set_option maxRecDepth 100000 in
set_option maxHeartbeats 4000000 in
theorem bid_one (w : World) (h : Rf w a R g cap rs) (who n : Int) (h0 : a.state = 0) (hw : 0 ≤ who ∧ who < a.ds.length) (hn : 0 ≤ n ∧ n ≤ 1048576) (hr : R = 1) : Calls Try.prog 16 #[rfV a R g cap, .int .i64 who, .int .i64 n] w fun e w' => ∃ g' cap' rs', e = .returned (.tuple #[rfV (a.put who.toNat n) R g' cap', .int .i64 0]) ∧ Rf w' (a.put who.toNat n) R g' cap' rs' ∧ Below w.heap.size w w' := by
  obtain ⟨i0, hi0, hz0, hz1, hz2⟩ := info_parts infoSl
  obtain ⟨j0, hj, hy0, hy1, hy2⟩ := info_parts infoInt
  obtain ⟨W1, hW1, X1, B1⟩ := rf_box w a R g cap
  obtain ⟨W2, hW2, X2, Y2, B2, Z2⟩ : ∃ W2, W1.alloc (.cells #[.int .i64 0, .int .i64 0, .int .i64 0, .int .i64 0, .slice none 0 0] 30) = W2 ∧ Blk W2 w.heap.size (rfA a R g cap) 30 ∧ Blk W2 (w.heap.size + 1) #[.int .i64 0, .int .i64 0, .int .i64 0, .int .i64 0, .slice none 0 0] 30 ∧ Below w.heap.size w W2 ∧ W2.heap.size = w.heap.size + 2 := by
    have hz : W1.heap.size = w.heap.size + 1 := by rw [← hW1]; simp
    exact ⟨_, rfl, X1.alloc _, blk_new _ _ _ _ hz.symm, B1.alloc (by omega) _, by simp [hz]⟩
  have hsz : W1.heap.size = w.heap.size + 1 := by rw [← hW1]; simp
  have L2 := h.below B2
  have h1 := h.one
  have hln := h.inv.len
  have HLw : Hid _ := fun wx (hb : Below w.heap.size w wx) => h.below hb
  have HNow : Hid _ := fun wx (hb : Below w.heap.size w wx) => now_ref wx (h.below hb)
  unfold rfV at HNow
  rw [show rfA a R g cap = #[.int .i64 a.supply, .int .i64 a.start, .int .i64 a.step, .int .i64 a.state, .slice (some ⟨g, 0, none⟩) R cap] from rfl] at HNow
  obtain ⟨uc, ucp, hus, _⟩ := h.now
  rw [tab_len] at hus
  rw [hus] at HNow
  have HUS : Hid _ := hus
  clear hus
  have H0 : Hid _ := h0
  have d0 : (a.state == 0) = true := by simpa using h0
  have c0 : W2.cell? ⟨w.heap.size, 0, none⟩ = some (.int .i64 a.supply) := X2.cell rfl
  have c1 : W2.cell? ⟨w.heap.size, 1, none⟩ = some (.int .i64 a.start) := X2.cell rfl
  have c2 : W2.cell? ⟨w.heap.size, 2, none⟩ = some (.int .i64 a.step) := X2.cell rfl
  have c3 : W2.cell? ⟨w.heap.size, 3, none⟩ = some (.int .i64 (a.state)) := X2.cell rfl
  have c4 : W2.cell? ⟨w.heap.size, 4, none⟩ = some (.slice (some ⟨g, 0, none⟩) R cap) := X2.cell rfl
  have d1 : decide (who < 0) = false := decide_eq_false (by omega)
  have d2 : decide ((a.ds.length : Int) ≤ who) = false := decide_eq_false (by omega)
  have d3 : decide (n < 0) = false := decide_eq_false (by omega)
  have d4 : decide (1048576 < n) = false := decide_eq_false (by omega)
  obtain ⟨i, rfl⟩ := Int.eq_ofNat_of_zero_le hw.1
  have hi : i < a.ds.length := by omega
  rw [Int.toNat_natCast] at *
  have HWas : Hid _ := fun wx (hb : Below w.heap.size w wx) => was_ref wx (h.below hb) i hi
  unfold rfV at HWas
  rw [show rfA a R g cap = #[.int .i64 a.supply, .int .i64 a.start, .int .i64 a.step, .int .i64 a.state, .slice (some ⟨g, 0, none⟩) R cap] from rfl] at HWas
  have d5 : decide (1 < (R : Int)) = false := decide_eq_false (by omega)
  have hnr : ¬ (1 < a.round ∧ wasOf a.ds i < n) := fun q => by have := h.rd; omega
  have hI1 : Inv (a.put i n) := by
    have q := h.inv.bid i n
    unfold Au.bid at q
    rw [if_neg (fun e => e h0), if_neg (by rintro (e | e); exact e ⟨by omega, by omega⟩; exact e hn), Int.toNat_natCast, if_neg hnr] at q
    exact q
  have HI : Hid _ := hI1
  have hcap := h.cp
  have hgl := h.lt
  clear h L2 X1 h0 hI1 HWas hnr hr
  unfold rfV
  rw [show rfA a R g cap = #[.int .i64 a.supply, .int .i64 a.start, .int .i64 a.step, .int .i64 a.state, .slice (some ⟨g, 0, none⟩) R cap] from rfl]
  go_enter Try.func16, Try.ntmps16
  go_wp2_with fail
  refine Calls.mono (HNow.out W2 B2) ?_
  rintro e w4 ⟨rfl, b4⟩
  have X4 := X2.below b4
  have Y4 := Y2.below b4
  have B4 : Below w.heap.size w w4 := B2.trans (b4.mono B2.size)
  have m0 : w4.cell? ⟨w.heap.size, 0, none⟩ = some (.int .i64 a.supply) := X4.cell rfl
  have m1 : w4.cell? ⟨w.heap.size, 1, none⟩ = some (.int .i64 a.start) := X4.cell rfl
  have m2 : w4.cell? ⟨w.heap.size, 2, none⟩ = some (.int .i64 a.step) := X4.cell rfl
  have m3 : w4.cell? ⟨w.heap.size, 3, none⟩ = some (.int .i64 (a.state)) := X4.cell rfl
  have m4 : w4.cell? ⟨w.heap.size, 4, none⟩ = some (.slice (some ⟨g, 0, none⟩) R cap) := X4.cell rfl
  have k1 : (R : Int) - 1 = ((R - 1 : Nat) : Int) := by omega
  have k2 : R - 1 ≤ cap := by omega
  have HK1 : Hid _ := k1
  have hsl : ∀ wx, (Instr.slice 28 (.slice (some ⟨g, 0, none⟩) R cap) none (some (.int .i64 ((R : Int) - 1))) none).run Try.prog wx = .ok (.slice (some ⟨g, 0, none⟩) (R - 1) cap) wx := fun wx => by
    rw [HK1.out]
    have q1 : (0 : Int) ≤ ((R - 1 : Nat) : Int) := by omega
    have q2 : ((R - 1 : Nat) : Int) ≤ cap := by omega
    simp [Instr.slice, run_underlying Try.underlying28, go_sem, q1, q2]
    try omega
  have hwr : IntKind.i64.wrap ((R : Int) - 1) = (R : Int) - 1 := by rw [IntKind.wrap_i64]; omega
  clear k1
  have h5 := HLw.out w4 B4
  have g4 : w4.cell? ⟨w.heap.size, 4, none⟩ = some (.slice (some ⟨g, 0, none⟩) R cap) := X4.cell rfl
  have zz := B4.size
  have zz2 := Y4.lt
  go_wp2_with (at_builtin; (refine wpList_append_own _ ?a1p (.tmp 44) (.tmp 51) 28 ?a2p (w.heap.size + 2) 43 i0 (.slice none 0 0) 1 24 ?a3p ?a4p ?a5p ?a6p ?a7p ?a8p ?a9p (.slice none 0 0) 0 [] ?b1p ?b2p ⟨g, 0, none⟩ (R - 1) cap (rsL rs (R - 1)) ?b3p ?b4p ?c1p ?c2p ?c3p ?c4p ?c5p ?_))
  case a1p => rfl
  case a2p => rfl
  case a3p => exact Try.underlying28
  case a4p => exact hi0
  case a5p => exact hz0
  case a6p => exact hz1
  case a7p => exact hz2
  case a8p => rfl
  case a9p => decide
  case b1p => rfl
  case b2p => exact World.ownsRow_nil _ _ _ _
  case b3p => rfl
  case b4p => exact rsL_len rs (R - 1)
  case c1p => exact rsL_cells h5 (by omega)
  case c2p => exact rsL_one h5 (by omega)
  case c3p => unfold maxLen; omega
  case c4p => omega
  case c5p => omega
  intro v6 w6 ho6 hg6 _
  try simp only [Nat.zero_add, List.nil_append] at ho6
  have B6 : Below w.heap.size w w6 := below_grownC B4 hg6 (fun k hk => by cases hk) (by omega)
  have X6 : Blk w6 w.heap.size (rfA a R g cap) 30 := (hg6.block _ X4.lt (fun e => by cases e)).trans X4
  have Y6 : Blk w6 (w.heap.size + 1) #[.int .i64 0, .int .i64 0, .int .i64 0, .int .i64 0, .slice none 0 0] 30 := (hg6.block _ Y4.lt (fun e => by cases e)).trans Y4
  have HO6 : Hid _ := ho6
  have z66 := hg6.size
  clear ho6 h5 hsl
  have B6z := B6.size
  have HNw := HNow.out w6 B6
  have e0 : w6.cell? ⟨w.heap.size, 0, none⟩ = some (.int .i64 a.supply) := X6.cell rfl
  have e1 : w6.cell? ⟨w.heap.size, 1, none⟩ = some (.int .i64 a.start) := X6.cell rfl
  have e2 : w6.cell? ⟨w.heap.size, 2, none⟩ = some (.int .i64 a.step) := X6.cell rfl
  have e3 : w6.cell? ⟨w.heap.size, 3, none⟩ = some (.int .i64 (a.state)) := X6.cell rfl
  have e4 : w6.cell? ⟨w.heap.size, 4, none⟩ = some (.slice (some ⟨g, 0, none⟩) R cap) := X6.cell rfl
  go_wp2_with fail
  refine HNw.mono ?_
  rintro e w7 ⟨rfl, b7⟩
  have z7 := b7.size
  have o7 := own_belowL HO6.out b7
  have HO7 : Hid _ := o7
  have X7 := X6.below b7
  have Y7 := Y6.below b7
  have B7 : Below w.heap.size w w7 := B6.trans (b7.mono B6z)
  have h7 := HLw.out w7 B7
  obtain ⟨uc', ucp', hus', hcu⟩ := h7.now
  have hue := HUS.out.symm.trans hus'
  rw [tab_len] at hue hcu
  injection hue with hu1 hu2 hu3
  subst hu1
  subst hu3
  clear hu2
  obtain ⟨gu, offu, huc, hgu, _⟩ := hcu 0 (by omega)
  subst huc
  have hcell : ∀ j, j < (tab a.ds.length (nowOf a.ds)).length → w7.cell? ⟨gu, offu + j, none⟩ = some (.int .i64 (gAt (tab a.ds.length (nowOf a.ds)) j)) := fun j hj => by
    rw [tab_len] at hj
    obtain ⟨g1, o1, e1, _, e2⟩ := hcu j hj
    injection e1 with e1
    injection e1 with e3 e4
    subst e3 e4
    exact e2
  have HCel : Hid _ := iL_cells hcell
  clear o7 HO6 HNw b7 hcu hcell hus' h7
  go_wp2_with (at_builtin; (refine wpList_append_own _ ?a1q (.tmp 53) (.tmp 55) 43 ?a2q (w.heap.size + 2) 3 j0 (.int .i64 0) 1 8 ?a3q ?a4q ?a5q ?a6q ?a7q ?a8q ?a9q (.slice none 0 0) 0 [] ?b1q ?b2q ⟨gu, offu, none⟩ a.ds.length ucp (iL (tab a.ds.length (nowOf a.ds))) ?b3q ?b4q ?c1q ?c2q ?c3q ?c4q ?c5q ?_))
  case a1q => rfl
  case a2q => rfl
  case a3q => exact Try.underlying43
  case a4q => exact hj
  case a5q => exact hy0
  case a6q => exact hy1
  case a7q => exact hy2
  case a8q => rfl
  case a9q => decide
  case b1q => rfl
  case b2q => exact World.ownsRow_nil _ _ _ _
  case b3q => rfl
  case b4q => simp [iL, tab_len]
  case c1q => exact HCel.out
  case c2q => intro x hx; simp only [iL, List.mem_map] at hx; obtain ⟨q, _, rfl⟩ := hx; rfl
  case c3q => unfold maxLen; omega
  case c4q => omega
  case c5q => omega
  intro v8 w8 ho8 hg8 _
  try simp only [Nat.zero_add, List.nil_append] at ho8
  have B8 : Below w.heap.size w w8 := below_grownC B7 hg8 (fun k hk => by cases hk) (by omega)
  have X8 : Blk w8 w.heap.size (rfA a R g cap) 30 := (hg8.block _ X7.lt (fun e => by cases e)).trans X7
  have Y8 : Blk w8 (w.heap.size + 1) #[.int .i64 0, .int .i64 0, .int .i64 0, .int .i64 0, .slice none 0 0] 30 := (hg8.block _ Y7.lt (fun e => by cases e)).trans Y7
  have o8 : w8.ownsRow (w.heap.size + 2) 43 1 v6 (R - 1) (rsL rs (R - 1)) := World.ownsRow.kept HO7.out hg8 (by show v6.ownBlock = none ∨ v6.ownBlock ≠ none; cases v6.ownBlock <;> simp)
  have rw8 : Rwn w8 (w.heap.size + 2) v8 (tab a.ds.length (nowOf a.ds)) := rwn_own (by rw [tab_len]; exact ho8)
  have rwb := rw8.block' (by rw [tab_len]; omega)
  simp only [tab_len] at rwb
  obtain ⟨g2, cap2, cur2, rfl, hg2b, XR, hcur⟩ := rwb
  have l0 : w8.cell? ⟨g2, i, none⟩ = some (.int .i64 (nowOf a.ds i)) := by
    have := XR.cell (hcur i hi)
    rw [tab_at _ hi] at this
    exact this
  have lf0 : w8.frozen? ⟨g2, i, none⟩ = false := XR.frozen
  have ki : (i : Int) < a.ds.length := by omega
  obtain ⟨W9, hW9, X9, Y9, B9, O9, XR9⟩ : ∃ W9, w8.setCell ⟨g2, i, none⟩ (.int .i64 n) = W9 ∧ Blk W9 w.heap.size (rfA a R g cap) 30 ∧ Blk W9 (w.heap.size + 1) #[.int .i64 0, .int .i64 0, .int .i64 0, .int .i64 0, .slice none 0 0] 30 ∧ Below w.heap.size w W9 ∧ W9.ownsRow (w.heap.size + 2) 43 1 v6 (R - 1) (rsL rs (R - 1)) ∧ Blk W9 g2 (cur2.setIfInBounds i (.int .i64 n)) 3 := ⟨_, rfl, X8.setOther (p := ⟨g2, i, none⟩) (by show w.heap.size ≠ g2; omega) _, Y8.setOther (p := ⟨g2, i, none⟩) (by show w.heap.size + 1 ≠ g2; omega) _, B8.setCell (p := ⟨g2, i, none⟩) (by show w.heap.size ≤ g2; omega) _, own_apart o8 XR, XR.set i _⟩
  have HO9 : Hid _ := O9
  have z9 := B9.size
  have z9' := XR9.lt
  have HXR9 : Hid _ := XR9
  have hc2s : i < cur2.size := by
    rcases Nat.lt_or_ge i cur2.size with q | q
    · exact q
    · have := hcur i hi; rw [Array.getElem?_eq_none q] at this; cases this
  have HC2 : Hid (∀ j, j < a.ds.length → (cur2.setIfInBounds i (.int .i64 n))[j]? = some (.int .i64 (if j = i then n else nowOf a.ds j))) := fun j hj => by
    rw [Array.getElem?_setIfInBounds]
    by_cases e : i = j
    · subst e; rw [if_pos rfl, if_pos hc2s, if_pos rfl]
    · rw [if_neg e, if_neg (fun q => e q.symm), hcur j hj, tab_at _ hj]
  clear ho8 o8 rw8 XR hcur O9 X8 Y8 HO7 XR9 hc2s
  go_wp2_with (at_builtin; (refine wpList_append_own _ ?a1r (.tmp 61) (.tmp 63) 28 ?a2r (w.heap.size + 2) 43 i0 (.slice none 0 0) 1 24 ?a3r ?a4r ?a5r ?a6r ?a7r ?a8r ?a9r v6 (R - 1) (rsL rs (R - 1)) ?b1r ?b2r ⟨W9.heap.size, 0, none⟩ 1 1 [.slice (some ⟨g2, 0, none⟩) a.ds.length cap2] ?b3r ?b4r ?c1r ?c2r ?c3r ?c4r ?c5r ?_))
  case a1r => rfl
  case a2r => rfl
  case a3r => exact Try.underlying28
  case a4r => exact hi0
  case a5r => exact hz0
  case a6r => exact hz1
  case a7r => exact hz2
  case a8r => rfl
  case a9r => decide
  case b1r => rfl
  case b2r => exact World.ownsRow.alloc HO9.out _
  case b3r => rfl
  case b4r => rfl
  case c1r => exact cell_one_new _ _ _
  case c2r => intro x hx; simp at hx; subst hx; rfl
  case c3r => unfold maxLen; omega
  case c4r => omega
  case c5r => simp; omega
  intro v10 w10 ho10 hg10 _
  have eR : R - 1 + 1 = R := by omega
  try rw [eR] at ho10
  have B10 : Below w.heap.size w w10 := below_grownC (B9.alloc (by omega) _) hg10 (fun q hq => by have := (World.ownsRow.lt HO9.out q hq).1; omega) (by simp; omega)
  have nx : ∀ k, k < W9.heap.size → (∀ q, v6.ownBlock = some q → q ≠ k) → w10.heap[k]? = W9.heap[k]? := fun k hk hne => by
    have q1 := hg10.block k (by simp; omega) (fun e => hne k e.symm rfl)
    exact q1.trans (((Below.refl W9.heap.size W9).alloc (Nat.le_refl _) _).block k hk)
  have X10 : Blk w10 w.heap.size (rfA a R g cap) 30 := (nx _ X9.lt (fun q hq => by have := (World.ownsRow.lt HO9.out q hq).1; omega)).trans X9
  have Y10 : Blk w10 (w.heap.size + 1) #[.int .i64 0, .int .i64 0, .int .i64 0, .int .i64 0, .slice none 0 0] 30 := (nx _ Y9.lt (fun q hq => by have := (World.ownsRow.lt HO9.out q hq).1; omega)).trans Y9
  have XR10 : Blk w10 g2 (cur2.setIfInBounds i (.int .i64 n)) 3 := (nx _ z9' (fun q hq e => by
    have hq9 := HO9.out.2
    rcases hq9 with ⟨e1, _⟩ | ⟨g', cp', cr', e1, _, hgg, _⟩
    · rw [e1] at hq; cases hq
    · rw [e1] at hq
      simp only [Value.ownBlock, Option.some.injEq] at hq
      have hbx : W9.heap[g2]? = some (.cells (cur2.setIfInBounds i (.int .i64 n)) 3) := HXR9.out
      rw [← e, ← hq, hgg] at hbx
      injection hbx with hbx
      injection hbx with _ hb2
      revert hb2; decide)).trans HXR9.out
  obtain ⟨g', cap', rfl, hgb, hgw, hcp, hcl⟩ := own_row ho10 (by omega)
  have m4 : w10.cell? ⟨w.heap.size, 4, none⟩ = some (.slice (some ⟨g, 0, none⟩) R cap) := X10.cell rfl
  have mf : w10.frozen? ⟨w.heap.size, 4, none⟩ = false := X10.frozen
  obtain ⟨W11, hW11, X11, Y11, B11⟩ : ∃ W11, w10.setCell ⟨w.heap.size, 4, none⟩ (.slice (some ⟨g', 0, none⟩) R cap') = W11 ∧ Blk W11 w.heap.size (rfA (a.put i n) R g' cap') 30 ∧ Blk W11 (w.heap.size + 1) #[.int .i64 0, .int .i64 0, .int .i64 0, .int .i64 0, .slice none 0 0] 30 ∧ Below w.heap.size w W11 := ⟨_, rfl, X10.set 4 _, Y10.setOther (p := ⟨w.heap.size, 4, none⟩) (by show w.heap.size + 1 ≠ w.heap.size; omega) _, B10.setCell (p := ⟨w.heap.size, 4, none⟩) (Nat.le_refl _) _⟩
  have r0 : W11.cell? ⟨w.heap.size, 0, none⟩ = some (.int .i64 a.supply) := X11.cell rfl
  have r1 : W11.cell? ⟨w.heap.size, 1, none⟩ = some (.int .i64 a.start) := X11.cell rfl
  have r2 : W11.cell? ⟨w.heap.size, 2, none⟩ = some (.int .i64 a.step) := X11.cell rfl
  have r3 : W11.cell? ⟨w.heap.size, 3, none⟩ = some (.int .i64 a.state) := X11.cell rfl
  have r4 : W11.cell? ⟨w.heap.size, 4, none⟩ = some (.slice (some ⟨g', 0, none⟩) R cap') := X11.cell rfl
  obtain ⟨W12, hW12, Y12, B12⟩ : ∃ W12, W11.setRow (w.heap.size + 1) (rfA (a.put i n) R g' cap') = W12 ∧ Blk W12 (w.heap.size + 1) (rfA (a.put i n) R g' cap') 30 ∧ Below w.heap.size w W12 := ⟨_, rfl, Y11.setRow _, below_setRow B11 _ _ (by omega)⟩
  have HRf : Hid (Rf W12 (a.put i n) R g' cap' (fun k => if k < R - 1 then rs k else .slice (some ⟨g2, 0, none⟩) a.ds.length cap2)) := by
    have q := HLw.out W12 B12
    have hk : ∀ k, w.heap.size + 2 ≤ k → W12.heap[k]? = w10.heap[k]? := fun k hk => by
      have e1 : W12.heap[k]? = W11.heap[k]? := by rw [← hW12]; exact setRow_other _ _ _ _ (by omega)
      have e2 : W11.heap[k]? = w10.heap[k]? := by rw [← hW11]; exact heap_setCell_other _ _ _ _ (by show k ≠ w.heap.size; omega)
      exact e1.trans e2
    have hl : (a.put i n).ds.length = a.ds.length := by simp [Au.put]
    have XR12 : Blk W12 g2 (cur2.setIfInBounds i (.int .i64 n)) 3 := (hk g2 hg2b).trans XR10
    refine ⟨q.rd, ?_, fun k hkk => ?_, fun k hkk => ?_, ?_, fun h2 => ?_, hcp, HI.out, ?_, fun h2 => ?_⟩
    · rcases Nat.lt_or_ge g' W12.heap.size with k | k
      · exact k
      · have e := hk g' hgb
        rw [Array.getElem?_eq_none k] at e
        have := Array.getElem?_eq_none_iff.1 e.symm
        omega
    · have e : W12.cell? ⟨g', k, none⟩ = w10.cell? ⟨g', k, none⟩ := World.cell?_of_block (w := w10) (a := ⟨g', k, none⟩) (hk g' hgb)
      rw [e]
      refine hcl k _ ?_
      by_cases k1 : k < R - 1
      · rw [if_pos k1, List.getElem?_append_left (by rw [rsL_len]; omega), rsL_at rs k1]
      · rw [if_neg k1, List.getElem?_append_right (by rw [rsL_len]; omega), rsL_len]
        have : k - (R - 1) * 1 = 0 := by omega
        rw [this]; rfl
    · by_cases k1 : k < R - 1
      · simp only [if_pos k1]; exact q.sl k (by omega)
      · simp only [if_neg k1]; exact ⟨_, _, _, rfl⟩
    · simp only [Nat.lt_irrefl, if_false]
      refine ⟨_, _, by rw [tab_len, hl], fun k hkk => ?_⟩
      rw [tab_len, hl] at hkk
      refine ⟨g2, 0, rfl, XR12.lt, ?_⟩
      rw [Nat.zero_add, tab_at _ (by rw [hl]; exact hkk)]
      have := XR12.cell (HC2.out k hkk)
      rw [this]
      unfold nowOf Au.put
      simp only
      rw [dAt_set _ hi]
      by_cases e : k = i
      · rw [if_pos e, if_pos e]
      · rw [if_neg e, if_neg e]
    · have k1 : R - 2 < R - 1 := by omega
      simp only [if_pos k1]
      rw [hl, tab_congr (f := wasOf (a.put i n).ds) (f' := wasOf a.ds) fun k hkk => by
        unfold wasOf Au.put
        simp only
        rw [dAt_set _ hi]
        by_cases e : k = i
        · subst e; rw [if_pos rfl]; rfl
        · rw [if_neg e]]
      exact q.was h2
    · simp only [Nat.lt_irrefl, if_false]
      intro g3 off3 n3 cp3 e3
      cases e3
      exact ⟨_, XR12⟩
    · have k1 : R - 2 < R - 1 := by omega
      simp only [if_pos k1]
      exact q.wasT h2
  clear X11 hcl ho10 X10 Y10 XR10 nx
  go_wp2_with ((with_reducible refine st_row (ty := 30) (cs' := rfA (a.put i n) R g' cap') Y11 (rf_info _ _ _ _) (rf_same _ _ _ _) (rf_one _ _ _ _) hW12 ?_ ?_ ?_); rfl; rfl)
  have s0 : W12.cell? ⟨w.heap.size + 1, 0, none⟩ = some (.int .i64 (a.supply)) := Y12.cell rfl
  have s1 : W12.cell? ⟨w.heap.size + 1, 1, none⟩ = some (.int .i64 (a.start)) := Y12.cell rfl
  have s2 : W12.cell? ⟨w.heap.size + 1, 2, none⟩ = some (.int .i64 (a.step)) := Y12.cell rfl
  have s3 : W12.cell? ⟨w.heap.size + 1, 3, none⟩ = some (.int .i64 (a.state)) := Y12.cell rfl
  have s4 : W12.cell? ⟨w.heap.size + 1, 4, none⟩ = some (.slice (some ⟨g', 0, none⟩) R cap') := Y12.cell rfl
  try simp only [Exit.inBlock, Exit.then]
  refine bodyPost_ret (by simp [results, Try.results16, go_sem, s0, s1, s2, s3, s4]; rfl) rfl ?_
  exact ⟨g', cap', _, rfl, HRf.out, B12⟩

set_option maxRecDepth 100000 in
set_option maxHeartbeats 4000000 in
theorem bid_more (w : World) (h : Rf w a R g cap rs) (who n : Int) (h0 : a.state = 0) (hw : 0 ≤ who ∧ who < a.ds.length) (hn : 0 ≤ n ∧ n ≤ 1048576) (hr : 1 < R) (hx : ¬ wasOf a.ds who.toNat < n) : Calls Try.prog 16 #[rfV a R g cap, .int .i64 who, .int .i64 n] w fun e w' => ∃ g' cap' rs', e = .returned (.tuple #[rfV (a.put who.toNat n) R g' cap', .int .i64 0]) ∧ Rf w' (a.put who.toNat n) R g' cap' rs' ∧ Below w.heap.size w w' := by
  obtain ⟨i0, hi0, hz0, hz1, hz2⟩ := info_parts infoSl
  obtain ⟨j0, hj, hy0, hy1, hy2⟩ := info_parts infoInt
  obtain ⟨W1, hW1, X1, B1⟩ := rf_box w a R g cap
  obtain ⟨W2, hW2, X2, Y2, B2, Z2⟩ : ∃ W2, W1.alloc (.cells #[.int .i64 0, .int .i64 0, .int .i64 0, .int .i64 0, .slice none 0 0] 30) = W2 ∧ Blk W2 w.heap.size (rfA a R g cap) 30 ∧ Blk W2 (w.heap.size + 1) #[.int .i64 0, .int .i64 0, .int .i64 0, .int .i64 0, .slice none 0 0] 30 ∧ Below w.heap.size w W2 ∧ W2.heap.size = w.heap.size + 2 := by
    have hz : W1.heap.size = w.heap.size + 1 := by rw [← hW1]; simp
    exact ⟨_, rfl, X1.alloc _, blk_new _ _ _ _ hz.symm, B1.alloc (by omega) _, by simp [hz]⟩
  have hsz : W1.heap.size = w.heap.size + 1 := by rw [← hW1]; simp
  have L2 := h.below B2
  have h1 := h.one
  have hln := h.inv.len
  have HLw : Hid _ := fun wx (hb : Below w.heap.size w wx) => h.below hb
  have HNow : Hid _ := fun wx (hb : Below w.heap.size w wx) => now_ref wx (h.below hb)
  unfold rfV at HNow
  rw [show rfA a R g cap = #[.int .i64 a.supply, .int .i64 a.start, .int .i64 a.step, .int .i64 a.state, .slice (some ⟨g, 0, none⟩) R cap] from rfl] at HNow
  obtain ⟨uc, ucp, hus, _⟩ := h.now
  rw [tab_len] at hus
  rw [hus] at HNow
  have HUS : Hid _ := hus
  clear hus
  have H0 : Hid _ := h0
  have d0 : (a.state == 0) = true := by simpa using h0
  have c0 : W2.cell? ⟨w.heap.size, 0, none⟩ = some (.int .i64 a.supply) := X2.cell rfl
  have c1 : W2.cell? ⟨w.heap.size, 1, none⟩ = some (.int .i64 a.start) := X2.cell rfl
  have c2 : W2.cell? ⟨w.heap.size, 2, none⟩ = some (.int .i64 a.step) := X2.cell rfl
  have c3 : W2.cell? ⟨w.heap.size, 3, none⟩ = some (.int .i64 (a.state)) := X2.cell rfl
  have c4 : W2.cell? ⟨w.heap.size, 4, none⟩ = some (.slice (some ⟨g, 0, none⟩) R cap) := X2.cell rfl
  have d1 : decide (who < 0) = false := decide_eq_false (by omega)
  have d2 : decide ((a.ds.length : Int) ≤ who) = false := decide_eq_false (by omega)
  have d3 : decide (n < 0) = false := decide_eq_false (by omega)
  have d4 : decide (1048576 < n) = false := decide_eq_false (by omega)
  obtain ⟨i, rfl⟩ := Int.eq_ofNat_of_zero_le hw.1
  have hi : i < a.ds.length := by omega
  rw [Int.toNat_natCast] at *
  have HWas : Hid _ := fun wx (hb : Below w.heap.size w wx) => was_ref wx (h.below hb) i hi
  unfold rfV at HWas
  rw [show rfA a R g cap = #[.int .i64 a.supply, .int .i64 a.start, .int .i64 a.step, .int .i64 a.state, .slice (some ⟨g, 0, none⟩) R cap] from rfl] at HWas
  have d5 : decide (1 < (R : Int)) = true := decide_eq_true (by omega)
  have d6 : decide (wasOf a.ds i < n) = false := decide_eq_false hx
  have hnr : ¬ (1 < a.round ∧ wasOf a.ds i < n) := fun q => hx q.2
  have hI1 : Inv (a.put i n) := by
    have q := h.inv.bid i n
    unfold Au.bid at q
    rw [if_neg (fun e => e h0), if_neg (by rintro (e | e); exact e ⟨by omega, by omega⟩; exact e hn), Int.toNat_natCast, if_neg hnr] at q
    exact q
  have HI : Hid _ := hI1
  have hcap := h.cp
  have hgl := h.lt
  clear h L2 X1 h0 hI1 hnr hr
  unfold rfV
  rw [show rfA a R g cap = #[.int .i64 a.supply, .int .i64 a.start, .int .i64 a.step, .int .i64 a.state, .slice (some ⟨g, 0, none⟩) R cap] from rfl]
  go_enter Try.func16, Try.ntmps16
  go_wp2_with fail
  refine Calls.mono (HNow.out W2 B2) ?_
  rintro e w4 ⟨rfl, b4⟩
  have X4 := X2.below b4
  have Y4 := Y2.below b4
  have B4 : Below w.heap.size w w4 := B2.trans (b4.mono B2.size)
  have m0 : w4.cell? ⟨w.heap.size, 0, none⟩ = some (.int .i64 a.supply) := X4.cell rfl
  have m1 : w4.cell? ⟨w.heap.size, 1, none⟩ = some (.int .i64 a.start) := X4.cell rfl
  have m2 : w4.cell? ⟨w.heap.size, 2, none⟩ = some (.int .i64 a.step) := X4.cell rfl
  have m3 : w4.cell? ⟨w.heap.size, 3, none⟩ = some (.int .i64 (a.state)) := X4.cell rfl
  have m4 : w4.cell? ⟨w.heap.size, 4, none⟩ = some (.slice (some ⟨g, 0, none⟩) R cap) := X4.cell rfl
  go_wp2_with fail
  refine Calls.mono (HWas.out w4 B4) ?_
  rintro e w5 ⟨rfl, b5⟩
  have X5 := X4.below b5
  have Y5 := Y4.below b5
  have B5 : Below w.heap.size w w5 := B4.trans (b5.mono B4.size)
  have k1 : (R : Int) - 1 = ((R - 1 : Nat) : Int) := by omega
  have k2 : R - 1 ≤ cap := by omega
  have HK1 : Hid _ := k1
  have hsl : ∀ wx, (Instr.slice 28 (.slice (some ⟨g, 0, none⟩) R cap) none (some (.int .i64 ((R : Int) - 1))) none).run Try.prog wx = .ok (.slice (some ⟨g, 0, none⟩) (R - 1) cap) wx := fun wx => by
    rw [HK1.out]
    have q1 : (0 : Int) ≤ ((R - 1 : Nat) : Int) := by omega
    have q2 : ((R - 1 : Nat) : Int) ≤ cap := by omega
    simp [Instr.slice, run_underlying Try.underlying28, go_sem, q1, q2]
    try omega
  have hwr : IntKind.i64.wrap ((R : Int) - 1) = (R : Int) - 1 := by rw [IntKind.wrap_i64]; omega
  clear k1
  have h5 := HLw.out w5 B5
  have g4 : w5.cell? ⟨w.heap.size, 4, none⟩ = some (.slice (some ⟨g, 0, none⟩) R cap) := X5.cell rfl
  have zz := B5.size
  have zz2 := Y5.lt
  go_wp2_with (at_builtin; (refine wpList_append_own _ ?a1p (.tmp 44) (.tmp 51) 28 ?a2p (w.heap.size + 2) 43 i0 (.slice none 0 0) 1 24 ?a3p ?a4p ?a5p ?a6p ?a7p ?a8p ?a9p (.slice none 0 0) 0 [] ?b1p ?b2p ⟨g, 0, none⟩ (R - 1) cap (rsL rs (R - 1)) ?b3p ?b4p ?c1p ?c2p ?c3p ?c4p ?c5p ?_))
  case a1p => rfl
  case a2p => rfl
  case a3p => exact Try.underlying28
  case a4p => exact hi0
  case a5p => exact hz0
  case a6p => exact hz1
  case a7p => exact hz2
  case a8p => rfl
  case a9p => decide
  case b1p => rfl
  case b2p => exact World.ownsRow_nil _ _ _ _
  case b3p => rfl
  case b4p => exact rsL_len rs (R - 1)
  case c1p => exact rsL_cells h5 (by omega)
  case c2p => exact rsL_one h5 (by omega)
  case c3p => unfold maxLen; omega
  case c4p => omega
  case c5p => omega
  intro v6 w6 ho6 hg6 _
  try simp only [Nat.zero_add, List.nil_append] at ho6
  have B6 : Below w.heap.size w w6 := below_grownC B5 hg6 (fun k hk => by cases hk) (by omega)
  have X6 : Blk w6 w.heap.size (rfA a R g cap) 30 := (hg6.block _ X5.lt (fun e => by cases e)).trans X5
  have Y6 : Blk w6 (w.heap.size + 1) #[.int .i64 0, .int .i64 0, .int .i64 0, .int .i64 0, .slice none 0 0] 30 := (hg6.block _ Y5.lt (fun e => by cases e)).trans Y5
  have HO6 : Hid _ := ho6
  have z66 := hg6.size
  clear ho6 h5 hsl
  have B6z := B6.size
  have HNw := HNow.out w6 B6
  have e0 : w6.cell? ⟨w.heap.size, 0, none⟩ = some (.int .i64 a.supply) := X6.cell rfl
  have e1 : w6.cell? ⟨w.heap.size, 1, none⟩ = some (.int .i64 a.start) := X6.cell rfl
  have e2 : w6.cell? ⟨w.heap.size, 2, none⟩ = some (.int .i64 a.step) := X6.cell rfl
  have e3 : w6.cell? ⟨w.heap.size, 3, none⟩ = some (.int .i64 (a.state)) := X6.cell rfl
  have e4 : w6.cell? ⟨w.heap.size, 4, none⟩ = some (.slice (some ⟨g, 0, none⟩) R cap) := X6.cell rfl
  go_wp2_with fail
  refine HNw.mono ?_
  rintro e w7 ⟨rfl, b7⟩
  have z7 := b7.size
  have o7 := own_belowL HO6.out b7
  have HO7 : Hid _ := o7
  have X7 := X6.below b7
  have Y7 := Y6.below b7
  have B7 : Below w.heap.size w w7 := B6.trans (b7.mono B6z)
  have h7 := HLw.out w7 B7
  obtain ⟨uc', ucp', hus', hcu⟩ := h7.now
  have hue := HUS.out.symm.trans hus'
  rw [tab_len] at hue hcu
  injection hue with hu1 hu2 hu3
  subst hu1
  subst hu3
  clear hu2
  obtain ⟨gu, offu, huc, hgu, _⟩ := hcu 0 (by omega)
  subst huc
  have hcell : ∀ j, j < (tab a.ds.length (nowOf a.ds)).length → w7.cell? ⟨gu, offu + j, none⟩ = some (.int .i64 (gAt (tab a.ds.length (nowOf a.ds)) j)) := fun j hj => by
    rw [tab_len] at hj
    obtain ⟨g1, o1, e1, _, e2⟩ := hcu j hj
    injection e1 with e1
    injection e1 with e3 e4
    subst e3 e4
    exact e2
  have HCel : Hid _ := iL_cells hcell
  clear o7 HO6 HNw b7 hcu hcell hus' h7
  go_wp2_with (at_builtin; (refine wpList_append_own _ ?a1q (.tmp 53) (.tmp 55) 43 ?a2q (w.heap.size + 2) 3 j0 (.int .i64 0) 1 8 ?a3q ?a4q ?a5q ?a6q ?a7q ?a8q ?a9q (.slice none 0 0) 0 [] ?b1q ?b2q ⟨gu, offu, none⟩ a.ds.length ucp (iL (tab a.ds.length (nowOf a.ds))) ?b3q ?b4q ?c1q ?c2q ?c3q ?c4q ?c5q ?_))
  case a1q => rfl
  case a2q => rfl
  case a3q => exact Try.underlying43
  case a4q => exact hj
  case a5q => exact hy0
  case a6q => exact hy1
  case a7q => exact hy2
  case a8q => rfl
  case a9q => decide
  case b1q => rfl
  case b2q => exact World.ownsRow_nil _ _ _ _
  case b3q => rfl
  case b4q => simp [iL, tab_len]
  case c1q => exact HCel.out
  case c2q => intro x hx; simp only [iL, List.mem_map] at hx; obtain ⟨q, _, rfl⟩ := hx; rfl
  case c3q => unfold maxLen; omega
  case c4q => omega
  case c5q => omega
  intro v8 w8 ho8 hg8 _
  try simp only [Nat.zero_add, List.nil_append] at ho8
  have B8 : Below w.heap.size w w8 := below_grownC B7 hg8 (fun k hk => by cases hk) (by omega)
  have X8 : Blk w8 w.heap.size (rfA a R g cap) 30 := (hg8.block _ X7.lt (fun e => by cases e)).trans X7
  have Y8 : Blk w8 (w.heap.size + 1) #[.int .i64 0, .int .i64 0, .int .i64 0, .int .i64 0, .slice none 0 0] 30 := (hg8.block _ Y7.lt (fun e => by cases e)).trans Y7
  have o8 : w8.ownsRow (w.heap.size + 2) 43 1 v6 (R - 1) (rsL rs (R - 1)) := World.ownsRow.kept HO7.out hg8 (by show v6.ownBlock = none ∨ v6.ownBlock ≠ none; cases v6.ownBlock <;> simp)
  have rw8 : Rwn w8 (w.heap.size + 2) v8 (tab a.ds.length (nowOf a.ds)) := rwn_own (by rw [tab_len]; exact ho8)
  have rwb := rw8.block' (by rw [tab_len]; omega)
  simp only [tab_len] at rwb
  obtain ⟨g2, cap2, cur2, rfl, hg2b, XR, hcur⟩ := rwb
  have l0 : w8.cell? ⟨g2, i, none⟩ = some (.int .i64 (nowOf a.ds i)) := by
    have := XR.cell (hcur i hi)
    rw [tab_at _ hi] at this
    exact this
  have lf0 : w8.frozen? ⟨g2, i, none⟩ = false := XR.frozen
  have ki : (i : Int) < a.ds.length := by omega
  obtain ⟨W9, hW9, X9, Y9, B9, O9, XR9⟩ : ∃ W9, w8.setCell ⟨g2, i, none⟩ (.int .i64 n) = W9 ∧ Blk W9 w.heap.size (rfA a R g cap) 30 ∧ Blk W9 (w.heap.size + 1) #[.int .i64 0, .int .i64 0, .int .i64 0, .int .i64 0, .slice none 0 0] 30 ∧ Below w.heap.size w W9 ∧ W9.ownsRow (w.heap.size + 2) 43 1 v6 (R - 1) (rsL rs (R - 1)) ∧ Blk W9 g2 (cur2.setIfInBounds i (.int .i64 n)) 3 := ⟨_, rfl, X8.setOther (p := ⟨g2, i, none⟩) (by show w.heap.size ≠ g2; omega) _, Y8.setOther (p := ⟨g2, i, none⟩) (by show w.heap.size + 1 ≠ g2; omega) _, B8.setCell (p := ⟨g2, i, none⟩) (by show w.heap.size ≤ g2; omega) _, own_apart o8 XR, XR.set i _⟩
  have HO9 : Hid _ := O9
  have z9 := B9.size
  have z9' := XR9.lt
  have HXR9 : Hid _ := XR9
  have hc2s : i < cur2.size := by
    rcases Nat.lt_or_ge i cur2.size with q | q
    · exact q
    · have := hcur i hi; rw [Array.getElem?_eq_none q] at this; cases this
  have HC2 : Hid (∀ j, j < a.ds.length → (cur2.setIfInBounds i (.int .i64 n))[j]? = some (.int .i64 (if j = i then n else nowOf a.ds j))) := fun j hj => by
    rw [Array.getElem?_setIfInBounds]
    by_cases e : i = j
    · subst e; rw [if_pos rfl, if_pos hc2s, if_pos rfl]
    · rw [if_neg e, if_neg (fun q => e q.symm), hcur j hj, tab_at _ hj]
  clear ho8 o8 rw8 XR hcur O9 X8 Y8 HO7 XR9 hc2s
  go_wp2_with (at_builtin; (refine wpList_append_own _ ?a1r (.tmp 61) (.tmp 63) 28 ?a2r (w.heap.size + 2) 43 i0 (.slice none 0 0) 1 24 ?a3r ?a4r ?a5r ?a6r ?a7r ?a8r ?a9r v6 (R - 1) (rsL rs (R - 1)) ?b1r ?b2r ⟨W9.heap.size, 0, none⟩ 1 1 [.slice (some ⟨g2, 0, none⟩) a.ds.length cap2] ?b3r ?b4r ?c1r ?c2r ?c3r ?c4r ?c5r ?_))
  case a1r => rfl
  case a2r => rfl
  case a3r => exact Try.underlying28
  case a4r => exact hi0
  case a5r => exact hz0
  case a6r => exact hz1
  case a7r => exact hz2
  case a8r => rfl
  case a9r => decide
  case b1r => rfl
  case b2r => exact World.ownsRow.alloc HO9.out _
  case b3r => rfl
  case b4r => rfl
  case c1r => exact cell_one_new _ _ _
  case c2r => intro x hx; simp at hx; subst hx; rfl
  case c3r => unfold maxLen; omega
  case c4r => omega
  case c5r => simp; omega
  intro v10 w10 ho10 hg10 _
  have eR : R - 1 + 1 = R := by omega
  try rw [eR] at ho10
  have B10 : Below w.heap.size w w10 := below_grownC (B9.alloc (by omega) _) hg10 (fun q hq => by have := (World.ownsRow.lt HO9.out q hq).1; omega) (by simp; omega)
  have nx : ∀ k, k < W9.heap.size → (∀ q, v6.ownBlock = some q → q ≠ k) → w10.heap[k]? = W9.heap[k]? := fun k hk hne => by
    have q1 := hg10.block k (by simp; omega) (fun e => hne k e.symm rfl)
    exact q1.trans (((Below.refl W9.heap.size W9).alloc (Nat.le_refl _) _).block k hk)
  have X10 : Blk w10 w.heap.size (rfA a R g cap) 30 := (nx _ X9.lt (fun q hq => by have := (World.ownsRow.lt HO9.out q hq).1; omega)).trans X9
  have Y10 : Blk w10 (w.heap.size + 1) #[.int .i64 0, .int .i64 0, .int .i64 0, .int .i64 0, .slice none 0 0] 30 := (nx _ Y9.lt (fun q hq => by have := (World.ownsRow.lt HO9.out q hq).1; omega)).trans Y9
  have XR10 : Blk w10 g2 (cur2.setIfInBounds i (.int .i64 n)) 3 := (nx _ z9' (fun q hq e => by
    have hq9 := HO9.out.2
    rcases hq9 with ⟨e1, _⟩ | ⟨g', cp', cr', e1, _, hgg, _⟩
    · rw [e1] at hq; cases hq
    · rw [e1] at hq
      simp only [Value.ownBlock, Option.some.injEq] at hq
      have hbx : W9.heap[g2]? = some (.cells (cur2.setIfInBounds i (.int .i64 n)) 3) := HXR9.out
      rw [← e, ← hq, hgg] at hbx
      injection hbx with hbx
      injection hbx with _ hb2
      revert hb2; decide)).trans HXR9.out
  obtain ⟨g', cap', rfl, hgb, hgw, hcp, hcl⟩ := own_row ho10 (by omega)
  have m4 : w10.cell? ⟨w.heap.size, 4, none⟩ = some (.slice (some ⟨g, 0, none⟩) R cap) := X10.cell rfl
  have mf : w10.frozen? ⟨w.heap.size, 4, none⟩ = false := X10.frozen
  obtain ⟨W11, hW11, X11, Y11, B11⟩ : ∃ W11, w10.setCell ⟨w.heap.size, 4, none⟩ (.slice (some ⟨g', 0, none⟩) R cap') = W11 ∧ Blk W11 w.heap.size (rfA (a.put i n) R g' cap') 30 ∧ Blk W11 (w.heap.size + 1) #[.int .i64 0, .int .i64 0, .int .i64 0, .int .i64 0, .slice none 0 0] 30 ∧ Below w.heap.size w W11 := ⟨_, rfl, X10.set 4 _, Y10.setOther (p := ⟨w.heap.size, 4, none⟩) (by show w.heap.size + 1 ≠ w.heap.size; omega) _, B10.setCell (p := ⟨w.heap.size, 4, none⟩) (Nat.le_refl _) _⟩
  have r0 : W11.cell? ⟨w.heap.size, 0, none⟩ = some (.int .i64 a.supply) := X11.cell rfl
  have r1 : W11.cell? ⟨w.heap.size, 1, none⟩ = some (.int .i64 a.start) := X11.cell rfl
  have r2 : W11.cell? ⟨w.heap.size, 2, none⟩ = some (.int .i64 a.step) := X11.cell rfl
  have r3 : W11.cell? ⟨w.heap.size, 3, none⟩ = some (.int .i64 a.state) := X11.cell rfl
  have r4 : W11.cell? ⟨w.heap.size, 4, none⟩ = some (.slice (some ⟨g', 0, none⟩) R cap') := X11.cell rfl
  obtain ⟨W12, hW12, Y12, B12⟩ : ∃ W12, W11.setRow (w.heap.size + 1) (rfA (a.put i n) R g' cap') = W12 ∧ Blk W12 (w.heap.size + 1) (rfA (a.put i n) R g' cap') 30 ∧ Below w.heap.size w W12 := ⟨_, rfl, Y11.setRow _, below_setRow B11 _ _ (by omega)⟩
  have HRf : Hid (Rf W12 (a.put i n) R g' cap' (fun k => if k < R - 1 then rs k else .slice (some ⟨g2, 0, none⟩) a.ds.length cap2)) := by
    have q := HLw.out W12 B12
    have hk : ∀ k, w.heap.size + 2 ≤ k → W12.heap[k]? = w10.heap[k]? := fun k hk => by
      have e1 : W12.heap[k]? = W11.heap[k]? := by rw [← hW12]; exact setRow_other _ _ _ _ (by omega)
      have e2 : W11.heap[k]? = w10.heap[k]? := by rw [← hW11]; exact heap_setCell_other _ _ _ _ (by show k ≠ w.heap.size; omega)
      exact e1.trans e2
    have hl : (a.put i n).ds.length = a.ds.length := by simp [Au.put]
    have XR12 : Blk W12 g2 (cur2.setIfInBounds i (.int .i64 n)) 3 := (hk g2 hg2b).trans XR10
    refine ⟨q.rd, ?_, fun k hkk => ?_, fun k hkk => ?_, ?_, fun h2 => ?_, hcp, HI.out, ?_, fun h2 => ?_⟩
    · rcases Nat.lt_or_ge g' W12.heap.size with k | k
      · exact k
      · have e := hk g' hgb
        rw [Array.getElem?_eq_none k] at e
        have := Array.getElem?_eq_none_iff.1 e.symm
        omega
    · have e : W12.cell? ⟨g', k, none⟩ = w10.cell? ⟨g', k, none⟩ := World.cell?_of_block (w := w10) (a := ⟨g', k, none⟩) (hk g' hgb)
      rw [e]
      refine hcl k _ ?_
      by_cases k1 : k < R - 1
      · rw [if_pos k1, List.getElem?_append_left (by rw [rsL_len]; omega), rsL_at rs k1]
      · rw [if_neg k1, List.getElem?_append_right (by rw [rsL_len]; omega), rsL_len]
        have : k - (R - 1) * 1 = 0 := by omega
        rw [this]; rfl
    · by_cases k1 : k < R - 1
      · simp only [if_pos k1]; exact q.sl k (by omega)
      · simp only [if_neg k1]; exact ⟨_, _, _, rfl⟩
    · simp only [Nat.lt_irrefl, if_false]
      refine ⟨_, _, by rw [tab_len, hl], fun k hkk => ?_⟩
      rw [tab_len, hl] at hkk
      refine ⟨g2, 0, rfl, XR12.lt, ?_⟩
      rw [Nat.zero_add, tab_at _ (by rw [hl]; exact hkk)]
      have := XR12.cell (HC2.out k hkk)
      rw [this]
      unfold nowOf Au.put
      simp only
      rw [dAt_set _ hi]
      by_cases e : k = i
      · rw [if_pos e, if_pos e]
      · rw [if_neg e, if_neg e]
    · have k1 : R - 2 < R - 1 := by omega
      simp only [if_pos k1]
      rw [hl, tab_congr (f := wasOf (a.put i n).ds) (f' := wasOf a.ds) fun k hkk => by
        unfold wasOf Au.put
        simp only
        rw [dAt_set _ hi]
        by_cases e : k = i
        · subst e; rw [if_pos rfl]; rfl
        · rw [if_neg e]]
      exact q.was h2
    · simp only [Nat.lt_irrefl, if_false]
      intro g3 off3 n3 cp3 e3
      cases e3
      exact ⟨_, XR12⟩
    · have k1 : R - 2 < R - 1 := by omega
      simp only [if_pos k1]
      exact q.wasT h2
  clear X11 hcl ho10 X10 Y10 XR10 nx
  go_wp2_with ((with_reducible refine st_row (ty := 30) (cs' := rfA (a.put i n) R g' cap') Y11 (rf_info _ _ _ _) (rf_same _ _ _ _) (rf_one _ _ _ _) hW12 ?_ ?_ ?_); rfl; rfl)
  have s0 : W12.cell? ⟨w.heap.size + 1, 0, none⟩ = some (.int .i64 (a.supply)) := Y12.cell rfl
  have s1 : W12.cell? ⟨w.heap.size + 1, 1, none⟩ = some (.int .i64 (a.start)) := Y12.cell rfl
  have s2 : W12.cell? ⟨w.heap.size + 1, 2, none⟩ = some (.int .i64 (a.step)) := Y12.cell rfl
  have s3 : W12.cell? ⟨w.heap.size + 1, 3, none⟩ = some (.int .i64 (a.state)) := Y12.cell rfl
  have s4 : W12.cell? ⟨w.heap.size + 1, 4, none⟩ = some (.slice (some ⟨g', 0, none⟩) R cap') := Y12.cell rfl
  try simp only [Exit.inBlock, Exit.then]
  refine bodyPost_ret (by simp [results, Try.results16, go_sem, s0, s1, s2, s3, s4]; rfl) rfl ?_
  exact ⟨g', cap', _, rfl, HRf.out, B12⟩
end Go.Proofs.Yteinfckkpkbnlaa
