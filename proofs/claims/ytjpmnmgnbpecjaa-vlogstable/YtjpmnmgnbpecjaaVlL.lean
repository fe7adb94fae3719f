/- Kept; New. -/
import Derived.Test.YtjpmnmgnbpecjaaVlK
namespace Go.Proofs.Ytjpmnmgnbpecjaa
open Go.Shelf Go.RowKit Go.Lib Go.Sort
open Go.ChangeMaps (setBlock)
set_option linter.unusedSimpArgs false
set_option linter.unusedVariables false
variable {w : World} {p : Nat} {mp : Nat → Option Nat} {L : Lv}

theorem sL_one (l : List Sgn) : ∀ u ∈ sL l, u.oneCell' = true := by
  intro u hu
  unfold sL at hu
  obtain ⟨m, _, hm⟩ := List.mem_flatMap.1 hu
  exact sC_one m u hm
theorem addr_lit (b j : Nat) : (⟨b, 0, none⟩ : Addr).add j = ⟨b, j, none⟩ := by rw [Addr.add_mid, Nat.zero_add]
set_option maxHeartbeats 4000000 in
set_option maxRecDepth 100000 in
theorem sclone_calls (v : Value) (l : List Sgn) (w : World) (hv : Sgr w 0 v l) (hn : l.length ≤ 1000000) :
    Calls Try.prog 27 #[v] w fun e w' => ∃ v', e = .returned v' ∧ Sgr w' w.heap.size v' l ∧ Below w.heap.size w w' := by
  obtain ⟨i0, hi, hz0, hz1, hz2⟩ := info_parts infoS
  rcases hv with ⟨rfl, rfl⟩ | ⟨g, cap, cur, rfl, hne, hnc, hg, hB, ht⟩
  · have hq : ∀ w, (binOp .eql 32 (.slice none 0 0) (.slice none 0 0)).run Try.prog w = .ok (.bool true) w := fun w => Lib.run_eql_slice_nil w 32 38 none 0 0 0 0 Try.underlying32
    go_enter Try.func27, Try.ntmps27
    go_wp2
    go_ret
    exact ⟨_, rfl, Or.inl ⟨rfl, rfl⟩, Below.refl _ _⟩
  · have HB : Hid (Blk w g cur 38) := hB
    have HT : Hid (cur.toList.take (l.length * 3) = sL l) := ht
    have HN : Hid _ := hne
    clear hB ht hne
    have hq : ∀ w, (binOp .eql 32 (.slice (some ⟨g, 0, none⟩) l.length cap) (.slice none 0 0)).run Try.prog w = .ok (.bool false) w := fun w => Lib.run_eql_slice_nil w 32 38 (some ⟨g, 0, none⟩) l.length cap 0 0 Try.underlying32
    go_enter Try.func27, Try.ntmps27
    go_wp2_with (at_builtin; refine wpList_append_own _ rfl (.tmp 5) (.tmp 6) 32 rfl w.heap.size 38 i0 (.agg #[.int .i64 0, .string ⟨#[]⟩, .string ⟨#[]⟩]) 3 40 Try.underlying32 hi hz0 hz1 hz2 rfl (by decide) _ 0 [] rfl (World.ownsRow_made w #[] 0 (Nat.le_refl _) (by decide) rfl) ⟨g, 0, none⟩ l.length cap (sL l) rfl (sL_len l) ?c1 ?c2 ?c3 ?c4 ?c5 ?_)
    case c1 =>
      intro j u hj
      have hjl : j < l.length * 3 := by have := (List.getElem?_eq_some_iff.1 hj).1; rw [sL_len] at this; exact this
      rw [addr_lit]
      rw [← HT.out, List.getElem?_take, if_pos hjl] at hj
      have hc := Blk.cell (w := w) (k := g) (o := j) (cs := cur) (t := 38) (v := u) HB.out (by simpa using hj)
      have hc2 := (((Below.refl w.heap.size w).alloc (Nat.le_refl _) (.cells #[] 38)).cell (p := ⟨g, j, none⟩) (Blk.lt HB.out)).trans hc
      simpa using hc2
    case c2 => exact sL_one l
    case c3 => unfold maxLen; omega
    case c4 => omega
    case c5 => simp
    intro v' w6 ho' hg' _
    have b6 : Below w.heap.size w w6 := below_grown ((Below.refl _ _).alloc (Nat.le_refl _) _) hg' (fun q hq => by simp [Value.ownBlock] at hq; omega) (by simp)
    have HS : Hid (Sgr w6 w.heap.size v' l) := by
      rcases ho'.2 with ⟨h1, h2⟩ | ⟨g', cap', cur', h1, h2, h3, h4, h5, h6, h7⟩
      · exact absurd (List.eq_nil_of_length_eq_zero (by omega)) HN.out
      · refine Or.inr ⟨g', cap', cur', ?_, HN.out, by omega, h2, h3, ?_⟩
        · exact h1
        · exact h7
    clear ho' hg'
    go_wp2
    go_ret
    exact ⟨v', rfl, HS.out, b6⟩

def bodyC (s : Slot) (lv : Value) : List Value := [.int .i64 s.fk, .int .i64 s.fv, .int .i64 s.fs, .int .i64 0, .int .i64 0, .string s.fd, .string s.ft, lv]
def kbL (ks : List (Slot × Value)) : List Value := ks.flatMap fun x => bodyC x.1 x.2
theorem kbL_snoc (ks : List (Slot × Value)) (s : Slot) (lv : Value) : kbL (ks ++ [(s, lv)]) = kbL ks ++ bodyC s lv := by simp [kbL]
def Lv.keptK (L : Lv) (k : Nat) : List Slot := ((List.range k).map fun (i : Nat) => L.sl (pla (L.lo + 1 + (i : Int)))).filter fun s => decide (0 < s.fs)
theorem keptK_yes (L : Lv) (k : Nat) (h : 0 < (L.sl (pla (L.lo + 1 + (k : Int)))).fs) : L.keptK (k + 1) = L.keptK k ++ [L.sl (pla (L.lo + 1 + (k : Int)))] := by
  simp [Lv.keptK, List.range_succ, h]
theorem keptK_no (L : Lv) (k : Nat) (h : ¬ 0 < (L.sl (pla (L.lo + 1 + (k : Int)))).fs) : L.keptK (k + 1) = L.keptK k := by
  simp [Lv.keptK, List.range_succ, h]
theorem keptK_len (L : Lv) (k : Nat) : (L.keptK k).length ≤ k := by
  have := List.length_filter_le (fun s : Slot => decide (0 < s.fs)) ((List.range k).map fun (i : Nat) => L.sl (pla (L.lo + 1 + (i : Int))))
  simpa [Lv.keptK] using this
/-- What Kept tells. -/
def KeptV (w : World) (base : Nat) (v : Value) (l : List Slot) : Prop := ∃ ks : List (Slot × Value), ks.map (·.1) = l ∧ w.ownsRow base 34 8 v ks.length (kbL ks) ∧ ∀ x ∈ ks, Sgr w base x.2 x.1.fl
theorem infoB : (Try.prog.info? 34).map (fun i => (i.zero, i.size, i.bytes)) = some (some (.agg #[.int .i64 0, .int .i64 0, .int .i64 0, .int .i64 0, .int .i64 0, .string ⟨#[]⟩, .string ⟨#[]⟩, .slice none 0 0]), 8, 96) := by kernel_rfl
/-- The proofs are of few messages. -/
def FlOk (L : Lv) : Prop := ∀ k, k < 8 → (L.sl k).fl.length ≤ 1000000

set_option maxHeartbeats 16000000 in
set_option maxRecDepth 100000 in
theorem kept_calls (h : Lg w p mp L) (hi : LInv L) (hf : FlOk L) : Calls Try.prog 10 #[.pointer (some ⟨p, 0, none⟩)] w fun e w' => ∃ v, e = .returned v ∧ KeptV w' w.heap.size v L.kept ∧ Below w.heap.size w w' := by
  obtain ⟨iS, hS, hS0, hS1, hS2⟩ := info_parts infoB
  have hm := made_calls h hi
  have HR : Hid _ := rising_calls h hi
  have HL : Hid (Lg w p mp L) := h
  have HF : Hid (FlOk L) := hf
  have HKe : Hid (L.kept = L.keptK 8) := rfl
  clear h hi hf
  go_enter Try.func10, Try.ntmps10
  go_wp2_with fail
  refine hm.mono ?_
  rintro e w0 ⟨rfl, hw0⟩
  obtain rfl := hw0.symm
  go_wp2_with fail
  refine Calls.mono HR.out ?_
  rintro e w1 ⟨rv, rfl, hown, b1⟩
  have HCell : Hid (∃ g cap, rv = .slice (some ⟨g, 0, none⟩) 8 cap ∧ g < w1.heap.size ∧ ∀ i, i < 8 → w1.cell? ⟨g, i, none⟩ = some (risP p L i)) := by
    rcases hown.2 with ⟨h1, h2⟩ | ⟨g, cap, cur, h1, h2, h3, h4, h5, h6, h7⟩
    · omega
    · have hB : Blk w1 g cur 73 := h3
      refine ⟨g, cap, h1, hB.lt, fun i hi => hB.cell ?_⟩
      have e1 : (ris p L 8)[i]? = some (risP p L i) := by simp [ris, hi]
      rw [← h7, List.getElem?_take, if_pos (by omega)] at e1
      simpa using e1
  obtain ⟨g, cap, rfl, hgl, hcell⟩ := HCell.out
  have HC : Hid _ := hcell
  clear hown HCell HR hcell hm
  go_wp2_with fail
  go_loopw [3, 15] (fun ov iv wr => ∃ (k : Nat) (ks : List (Slot × Value)), k ≤ 8 ∧ iv = .int .i64 k ∧ Hid (ks.map (·.1) = L.keptK k) ∧ Hid (wr.ownsRow w1.heap.size 34 8 ov ks.length (kbL ks)) ∧ Hid (∀ x ∈ ks, Sgr wr w.heap.size x.2 x.1.fl) ∧ Below w1.heap.size w1 wr) (fun _ iv _ => 8 - (intOf iv).toNat)
  case atStart => exact ⟨0, [], by decide, rfl, rfl, World.ownsRow_nil _ _ _ _, fun x hx => (by cases hx), Below.refl _ _⟩
  case round =>
    obtain ⟨k, ks, hk, rfl, HM, HO, HG, hb⟩ := hrel
    by_cases hlt : k < 8
    · have hd : decide ((k : Int) < 8) = true := by simp only [decide_eq_true_eq]; omega
      have hb0 : Below w.heap.size w wr := b1.trans (hb.mono b1.size)
      have c0 : wr.cell? ⟨g, k, none⟩ = some (.pointer (some ⟨p, 3 + pla (L.lo + 1 + (k : Int)) * 13, none⟩)) := (hb.cell (p := ⟨g, k, none⟩) hgl).trans (HC.out k hlt)
      have hLr : Lg wr p mp L := Lg.below HL.out hb0
      obtain ⟨lv, hs, hsg⟩ := hLr.slot (pla (L.lo + 1 + (k : Int))) (pla_lt _)
      have HFk : Hid ((L.sl (pla (L.lo + 1 + (k : Int)))).fl.length ≤ 1000000) := HF.out _ (pla_lt _)
      have HY : Hid _ := keptK_yes L k
      have HNo : Hid _ := keptK_no L k
      have hkl : ks.length ≤ 8 := by
        have e := congrArg List.length HM.out
        rw [List.length_map] at e
        have := keptK_len L k
        omega
      generalize pla (L.lo + 1 + (k : Int)) = kk at *
      obtain ⟨o, Ho⟩ : ∃ o, Hid (3 + kk * 13 = o) := ⟨_, rfl⟩
      rw [Ho.out] at c0 hs
      have s5 : wr.cell? ⟨p, o + 5, none⟩ = some (.int .i64 (L.sl kk).fk) := hs 5 _ rfl
      have s6 : wr.cell? ⟨p, o + 6, none⟩ = some (.int .i64 (L.sl kk).fv) := hs 6 _ rfl
      have s7 : wr.cell? ⟨p, o + 7, none⟩ = some (.int .i64 (L.sl kk).fs) := hs 7 _ rfl
      have s8 : wr.cell? ⟨p, o + 8, none⟩ = some (.int .i64 0) := hs 8 _ rfl
      have s9 : wr.cell? ⟨p, o + 9, none⟩ = some (.int .i64 0) := hs 9 _ rfl
      have s10 : wr.cell? ⟨p, o + 10, none⟩ = some (.string (L.sl kk).fd) := hs 10 _ rfl
      have s11 : wr.cell? ⟨p, o + 11, none⟩ = some (.string (L.sl kk).ft) := hs 11 _ rfl
      have s12 : wr.cell? ⟨p, o + 12, none⟩ = some lv := hs 12 _ rfl
      have hz := hb.size
      have hz0 := b1.size
      by_cases hfs : 0 < (L.sl kk).fs
      · have hd2 : decide (0 < (L.sl kk).fs) = true := decide_eq_true hfs
        have HY2 : Hid _ := HY.out hfs
        obtain ⟨sl, Hsl⟩ : ∃ sl, Hid (L.sl kk = sl) := ⟨_, rfl⟩
        rw [Hsl.out] at s5 s6 s7 s10 s11 hd2 HY2 hsg HFk hfs
        obtain ⟨lp, ll, lc, hlvf⟩ : ∃ lp ll lc, lv = .slice lp ll lc := by
          rcases hsg with ⟨h1, _⟩ | ⟨g', cap', cs', h1, _⟩
          · exact ⟨_, _, _, h1⟩
          · exact ⟨_, _, _, h1⟩
        have HSG : Hid (Sgr wr 0 lv sl.fl) := hsg
        subst hlvf
        have HCl : Hid (∀ wx, Below wr.heap.size wr wx → Calls Try.prog 27 #[.slice lp ll lc] wx fun e w' => ∃ v', e = .returned v' ∧ Sgr w' wx.heap.size v' sl.fl ∧ Below wx.heap.size wx w') := fun wx hbx => sclone_calls _ sl.fl wx (Sgr.below HSG.out hbx) HFk.out
        clear hs hLr HY HNo hsg
        obtain ⟨W2, hW2, XB, b2, Z2⟩ : ∃ W2, (wr.alloc (.cells #[.int .i64 sl.fk, .int .i64 sl.fv, .int .i64 sl.fs, .int .i64 0, .int .i64 0, .string sl.fd, .string sl.ft, .slice lp ll lc] 34)) = W2 ∧ Blk W2 wr.heap.size #[.int .i64 sl.fk, .int .i64 sl.fv, .int .i64 sl.fs, .int .i64 0, .int .i64 0, .string sl.fd, .string sl.ft, .slice lp ll lc] 34 ∧ Below wr.heap.size wr W2 ∧ W2.heap.size = wr.heap.size + 1 :=
          ⟨_, rfl, blk_new _ _ _ _ rfl, by go_grown, by simp⟩
        have x7 : W2.cell? ⟨wr.heap.size, 7, none⟩ = some (.slice lp ll lc) := XB.cell rfl
        have HZ2 : Hid _ := Z2
        clear Z2
        go_wp2_with fail
        refine (HCl.out _ b2).mono ?_
        rintro e w3 ⟨cv, rfl, hcv, b3⟩
        obtain ⟨qp, ql, qc, hcvf⟩ : ∃ lp ll lc, cv = .slice lp ll lc := by
          rcases hcv with ⟨h1, _⟩ | ⟨g', cap', cs', h1, _⟩
          · exact ⟨_, _, _, h1⟩
          · exact ⟨_, _, _, h1⟩
        subst hcvf
        have X3 := XB.below b3
        obtain ⟨W4, hW4, X4, o4, Z4⟩ : ∃ W4, w3.setCell ⟨wr.heap.size, 7, none⟩ (.slice qp ql qc) = W4 ∧ Blk W4 wr.heap.size #[.int .i64 sl.fk, .int .i64 sl.fv, .int .i64 sl.fs, .int .i64 0, .int .i64 0, .string sl.fd, .string sl.ft, .slice qp ql qc] 34 ∧ Off wr.heap.size w3 W4 ∧ W4.heap.size = w3.heap.size :=
          ⟨_, rfl, X3.set 7 (.slice qp ql qc), Off.setCell (Off.refl _ _) (p := ⟨wr.heap.size, 7, none⟩) rfl _, by simp [World.setCell]⟩
        have x37 : w3.cell? ⟨wr.heap.size, 7, none⟩ = some (.slice lp ll lc) := X3.cell rfl
        have f37 : w3.frozen? ⟨wr.heap.size, 7, none⟩ = false := X3.frozen
        have y0 : W4.cell? ⟨wr.heap.size, 0, none⟩ = some (.int .i64 sl.fk) := X4.cell rfl
        have y1 : W4.cell? ⟨wr.heap.size, 1, none⟩ = some (.int .i64 sl.fv) := X4.cell rfl
        have y2 : W4.cell? ⟨wr.heap.size, 2, none⟩ = some (.int .i64 sl.fs) := X4.cell rfl
        have y3 : W4.cell? ⟨wr.heap.size, 3, none⟩ = some (.int .i64 0) := X4.cell rfl
        have y4 : W4.cell? ⟨wr.heap.size, 4, none⟩ = some (.int .i64 0) := X4.cell rfl
        have y5 : W4.cell? ⟨wr.heap.size, 5, none⟩ = some (.string sl.fd) := X4.cell rfl
        have y6 : W4.cell? ⟨wr.heap.size, 6, none⟩ = some (.string sl.ft) := X4.cell rfl
        have y7 : W4.cell? ⟨wr.heap.size, 7, none⟩ = some (.slice qp ql qc) := X4.cell rfl
        have br3 : Below wr.heap.size wr w3 := b2.trans (b3.mono b2.size)
        have b4 : Below wr.heap.size wr W4 := o4.below (Nat.le_refl _) br3 (by have := br3.size; omega)
        have ne4 : ∀ gx cs, Blk w3 gx cs 38 → gx ≠ wr.heap.size := fun gx cs hB e => by
          subst e; unfold Blk at hB X3; rw [hB] at X3; simp at X3
        have HG4 : Hid (∀ x ∈ ks, Sgr W4 w.heap.size x.2 x.1.fl) := fun x hx => ((HG.out x hx).below br3).keep fun gx cs hB => o4.block gx hB.lt (ne4 gx cs hB)
        have HN4 : Hid (Sgr W4 w.heap.size (.slice qp ql qc) sl.fl) := (hcv.keep fun gx cs hB => o4.block gx hB.lt (ne4 gx cs hB)).mono (by have := HZ2.out; omega)
        have HO4 : Hid (W4.ownsRow w1.heap.size 34 8 u3 ks.length (kbL ks)) := ownB HO.out b4
        have b14 : Below w1.heap.size w1 W4 := hb.trans (b4.mono hz)
        have hz4 : wr.heap.size < W4.heap.size := by have := br3.size; have := HZ2.out; have := b3.size; omega
        clear hcv HG HO XB X3 X4 b2 b3 br3 b4 HCl ne4 x7
        have HZ4 : Hid _ := Z4
        clear Z4
        go_wp2_with (at_builtin; refine wpList_append_own _ rfl _ _ 26 rfl w1.heap.size 34 iS (.agg #[.int .i64 0, .int .i64 0, .int .i64 0, .int .i64 0, .int .i64 0, .string ⟨#[]⟩, .string ⟨#[]⟩, .slice none 0 0]) 8 96 Try.underlying26 hS hS0 hS1 hS2 rfl (by decide) _ _ _ rfl (World.ownsRow.alloc HO4.out _) ⟨W4.heap.size, 0, none⟩ 1 1 [.int .i64 sl.fk, .int .i64 sl.fv, .int .i64 sl.fs, .int .i64 0, .int .i64 0, .string sl.fd, .string sl.ft, .slice qp ql qc] rfl rfl ?c1 ?c2 ?c3 ?c4 ?c5 ?_)
        case c1 =>
          intro j u hj
          rw [addr_lit]
          exact (blk_new W4 W4.heap.size #[.int .i64 sl.fk, .int .i64 sl.fv, .int .i64 sl.fs, .int .i64 0, .int .i64 0, .string sl.fd, .string sl.ft, .slice qp ql qc] 34 rfl).cell (by simpa using hj)
        case c2 => intro u hu; simp at hu; rcases hu with rfl | rfl | rfl | rfl | rfl | rfl | rfl <;> rfl
        case c3 => unfold maxLen; omega
        case c4 => omega
        case c5 => simp; omega
        intro ov' w5 hown5 hgrow5 _
        have b5 : Below w1.heap.size w1 w5 := below_grown (b14.alloc (by omega) _) hgrow5 (fun q hq => (World.ownsRow.lt HO4.out q hq).1) (by simp; omega)
        have k5 : ∀ gx cs, Blk W4 gx cs 38 → w5.heap[gx]? = W4.heap[gx]? := fun gx cs hB => by
          rw [hgrow5.block gx (by have := hB.lt; simp; omega) (fun e => ?_), heap_alloc_old _ _ hB.lt]
          rcases HO4.out.2 with ⟨h1, h2⟩ | ⟨g', cap', cur', h1, h2, h3, _⟩
          · rw [h1] at e; cases e
          · rw [h1] at e
            injection e with e
            subst e
            unfold Blk at hB
            rw [hB] at h3
            simp at h3
        have HG5 : Hid (∀ x ∈ ks ++ [(sl, Value.slice qp ql qc)], Sgr w5 w.heap.size x.2 x.1.fl) := fun x hx => by
          rcases List.mem_append.1 hx with h1 | h1
          · exact (HG4.out x h1).keep k5
          · simp at h1
            subst h1
            exact Sgr.keep (w := W4) HN4.out k5
        have HO5 : Hid _ := hown5
        clear hown5 hgrow5 k5
        go_wp2
        refine ⟨⟨k + 1, ks ++ [(sl, .slice qp ql qc)], by omega, by norm_cast, ?_, ?_, HG5, b5⟩, by simp [intOf]; omega⟩
        · show _ = _
          rw [HY2.out, List.map_append, HM.out]; rfl
        · show World.ownsRow _ _ _ _ _ _ _
          rw [kbL_snoc, List.length_append]; exact HO5.out
      · have hd2 : decide (0 < (L.sl kk).fs) = false := decide_eq_false hfs
        have HN2 : Hid _ := HNo.out hfs
        generalize (L.sl kk).fs = FQ at s7 hd2
        clear hs hLr HY HNo hsg s5 s6 s10 s11 s12
        go_wp2
        refine ⟨⟨k + 1, ks, by omega, by norm_cast, ?_, HO, HG, hb⟩, by simp [intOf]; omega⟩
        show _ = _
        rw [HN2.out]; exact HM.out
    · have hd : decide ((k : Int) < 8) = false := by simp only [decide_eq_false_iff_not]; omega
      have : k = 8 := by omega
      subst this
      go_wp2
      go_ret
      refine ⟨_, rfl, ⟨ks, by rw [HKe.out]; exact HM.out, own_base HO.out b1.size, HG.out⟩, b1.trans (hb.mono b1.size)⟩
end Go.Proofs.Ytjpmnmgnbpecjaa
