/- Put of a tree. -/
import Derived.Test.YtpcafjbebhcilaaGreatTm42
import Derived.Test.YtpcafjbebhcilaaGreatTm41
namespace Go.Proofs.YtpcafjbebhcilaaGreat
open Go.RowKit
set_option linter.unusedSimpArgs false
set_option linter.unusedVariables false
variable {p b x y : Nat} {T : List ByteArray} {S : List (Int × ByteArray)}
variable {B k : Nat} {lv dv : Value} {l : List Rc} {w w' w'' : World}

theorem rise_one (m : Rc) : riseR [m] = if rcBad m = true then 14 else 0 := by
  have h1 : riseR [m] = riseF ⟨#[]⟩ [m] := by unfold riseR; rw [if_neg (by simp)]
  rw [h1]
  unfold riseF
  by_cases hb : rcBad m = true
  · rw [if_pos hb, if_pos hb]
  · rw [if_neg hb, if_neg hb]
    have hk : m.key.size ≠ 0 := by
      intro e
      apply hb
      unfold rcBad
      rw [decide_eq_true e]
      simp
    have hl : lsB ⟨#[]⟩ m.key = true := by
      refine lsB_flip' _ _ ?_ ?_
      · unfold lsB
        have : (⟨#[]⟩ : ByteArray).toList = [] := by rw [ByteArray.toList_eq]
        rw [this]
        cases m.key.toList <;> rfl
      · intro e; rw [e] at hk; exact hk rfl
    rw [if_pos hl]
    rfl
theorem recs_one (m : Rc) : recsR [m] = if rcBad m = true then #[.string ⟨#[]⟩, .int .i64 14] else #[.string ⟨(rcsB [m]).toArray⟩, .int .i64 0] := by
  unfold recsR
  rw [rise_one]
  by_cases hb : rcBad m = true
  · simp only [if_pos hb]
    rfl
  · simp only [if_neg hb, if_true]
    have h0 : riseR [m] = 0 := by rw [rise_one, if_neg hb]
    have h1 := rcs_take_len h0 1
    rw [if_neg]
    have e1 := rcB_len m ((riseR_ok h0).2 m (by simp))
    have e2 := enc_le [m].length
    unfold rcsB
    rw [List.length_append]
    simp only [List.flatMap_cons, List.flatMap_nil, List.append_nil]
    omega
theorem Nx.far {v v' : Value} {w w1 : World} (h : Nx w1 v v') (hs : w.heap.size ≤ w1.heap.size) : Nx w v v' := by
  rcases h with h | h
  · exact Or.inl h
  · exact Or.inr (fun g hg => Nat.le_trans hs (h g hg))
/-- The records' half of a Put. -/
theorem half_put {w8 w9 : World} {g1 cp1 n : Nat} {xs : List Value} (h : Tre w B k p b x y T S l lv dv) (hb : Below w.heap.size w w8) (o9 : w9.ownsRow B 47 2 (.slice (some ⟨g1, 0, none⟩) n cp1) n xs) (gr : w8.grownBy w9 lv.ownBlock) (lie : lv.ownBlock = some g1 ∨ g1 = w8.heap.size) :
    Blk w9 k #[.pointer (some ⟨p, 0, none⟩), lv, dv] 64 ∧ Blk (w9.setCell ⟨k, 1, none⟩ (.slice (some ⟨g1, 0, none⟩) n cp1)) k #[.pointer (some ⟨p, 0, none⟩), .slice (some ⟨g1, 0, none⟩) n cp1, dv] 64 ∧ (w9.setCell ⟨k, 1, none⟩ (.slice (some ⟨g1, 0, none⟩) n cp1)).ownsRow B 47 2 (.slice (some ⟨g1, 0, none⟩) n cp1) n xs ∧ (∀ m ys, w.ownsRow B 9 1 dv m ys → (w9.setCell ⟨k, 1, none⟩ (.slice (some ⟨g1, 0, none⟩) n cp1)).ownsRow B 9 1 dv m ys) ∧ Book (w9.setCell ⟨k, 1, none⟩ (.slice (some ⟨g1, 0, none⟩) n cp1)) p b x y T S ∧ Tch k x y lv dv w (w9.setCell ⟨k, 1, none⟩ (.slice (some ⟨g1, 0, none⟩) n cp1)) ∧ Nx w lv (.slice (some ⟨g1, 0, none⟩) n cp1) := by
  have hkB := h.kB
  have hk := h.away
  have h8 := h.below hb
  have ha := h8.book.apart h8.rows (by decide) (by decide)
  have hlt := h8.rows.lt
  have X9 : Blk w9 k #[.pointer (some ⟨p, 0, none⟩), lv, dv] 64 := (gr.block k h8.blk.lt (fun q => by have := (hlt k q.symm).1; omega)).trans h8.blk
  have gs : w9.grownBy (w9.setCell ⟨k, 1, none⟩ (.slice (some ⟨g1, 0, none⟩) n cp1)) (some k) := (Off.setCell (Off.refl k w9) (p := ⟨k, 1, none⟩) rfl _).byM
  refine ⟨X9, X9.set 1 _, own_setM o9 hkB, fun m ys o => own_setM (World.ownsRow.kept (own_below o hb) gr ?_) hkB, (h8.book.grown gr ha).grown gs ⟨by simpa using hk.1, by simpa using hk.2.1, by simpa using hk.2.2.1, by simpa using hk.2.2.2⟩, ((Tch.of_below hb).trans (Tch.of_grown gr (Or.inl rfl))).trans (Tch.of_grown gs (Or.inr (Or.inr rfl))), ?_⟩
  · rcases own_twoM (own_below o hb) h8.rows (by decide) with q | q
    · exact Or.inl q
    · exact Or.inr q
  · rcases lie with q | q
    · exact Or.inl q.symm
    · exact Or.inr (fun g hg => by
        have : g1 = g := Option.some.inj hg
        have := hb.size
        omega)
/-- The leaves' half. -/
theorem rest_put {W10 w11 w12 : World} {g1 cp1 g2 cp2 r : Nat} {lf key dat : ByteArray} {ls : List ByteArray} (h : Tre w B k p b x y (note T (leafT ⟨key, dat⟩)) S l lv dv) (hz : key.size ≤ 64 ∧ dat.size ≤ 4096) (hsp : Spot l key r) (hh : hasAt l r key = false) (hlf : dig (note T (leafT ⟨key, dat⟩)) (leafT ⟨key, dat⟩) = lf) (hlv : Lvs (note T (leafT ⟨key, dat⟩)) l ls)
    (X10 : Blk W10 k #[.pointer (some ⟨p, 0, none⟩), .slice (some ⟨g1, 0, none⟩) (l.length + 1) cp1, dv] 64) (o10 : W10.ownsRow B 47 2 (.slice (some ⟨g1, 0, none⟩) (l.length + 1) cp1) (l.length + 1) ((rcCells l).take (r * 2) ++ [.string key, .string dat] ++ (rcCells l).drop (r * 2))) (od : W10.ownsRow B 9 1 dv ls.length (txC ls)) (hB10 : Book W10 p b x y (note T (leafT ⟨key, dat⟩)) S) (C10 : Tch k x y lv dv w W10) (N10 : Nx w lv (.slice (some ⟨g1, 0, none⟩) (l.length + 1) cp1)) (B11 : Below W10.heap.size W10 w11)
    (o12 : w12.ownsRow B 9 1 (.slice (some ⟨g2, 0, none⟩) (ls.length + 1) cp2) (ls.length + 1) ((txC ls).take (r * 1) ++ [.string lf] ++ (txC ls).drop (r * 1))) (gr : w11.grownBy w12 dv.ownBlock) (lie : dv.ownBlock = some g2 ∨ g2 = w11.heap.size) :
    Blk w12 k #[.pointer (some ⟨p, 0, none⟩), .slice (some ⟨g1, 0, none⟩) (l.length + 1) cp1, dv] 64 ∧ Tre (w12.setCell ⟨k, 2, none⟩ (.slice (some ⟨g2, 0, none⟩) (ls.length + 1) cp2)) B k p b x y (note T (leafT ⟨key, dat⟩)) S (putL l r ⟨key, dat⟩) (.slice (some ⟨g1, 0, none⟩) (l.length + 1) cp1) (.slice (some ⟨g2, 0, none⟩) (ls.length + 1) cp2) ∧ Tch k x y lv dv w (w12.setCell ⟨k, 2, none⟩ (.slice (some ⟨g2, 0, none⟩) (ls.length + 1) cp2)) ∧ Nx w lv (.slice (some ⟨g1, 0, none⟩) (l.length + 1) cp1) ∧ Nx w dv (.slice (some ⟨g2, 0, none⟩) (ls.length + 1) cp2) := by
  have hkB := h.kB
  have hk := h.away
  have od' := own_below od B11
  have ha := (hB10.below B11).apart od' (by decide) (by decide)
  have hlt := od'.lt
  have ll := hlv.len
  have X11 := X10.below B11
  have X12 : Blk w12 k #[.pointer (some ⟨p, 0, none⟩), .slice (some ⟨g1, 0, none⟩) (l.length + 1) cp1, dv] 64 := (gr.block k X11.lt (fun q => by have := (hlt k q.symm).1; omega)).trans X11
  have gs : w12.grownBy (w12.setCell ⟨k, 2, none⟩ (.slice (some ⟨g2, 0, none⟩) (ls.length + 1) cp2)) (some k) := (Off.setCell (Off.refl k w12) (p := ⟨k, 2, none⟩) rfl _).byM
  have hp : putL l r ⟨key, dat⟩ = l.take r ++ ⟨key, dat⟩ :: l.drop r := by unfold putL; rw [show hasAt l r (Rc.mk key dat).key = false from hh]; rfl
  have hpl : (l.take r ++ (⟨key, dat⟩ : Rc) :: l.drop r).length = l.length + 1 := by rw [List.length_append, List.length_cons, List.length_take, List.length_drop]; have := hsp.le; omega
  have hm : leafT ⟨key, dat⟩ ∈ note T (leafT ⟨key, dat⟩) := mem_noted _ _
  have C12 : Tch k x y lv dv w (w12.setCell ⟨k, 2, none⟩ (.slice (some ⟨g2, 0, none⟩) (ls.length + 1) cp2)) := ((C10.trans (Tch.of_below B11)).trans (Tch.of_grown gr (Or.inr (Or.inl rfl)))).trans (Tch.of_grown gs (Or.inr (Or.inr rfl)))
  refine ⟨X12, ⟨X12.set 2 _, ?_, ⟨ls.take r ++ lf :: ls.drop r, ?_, ?_⟩, ((hB10.below B11).grown gr ha).grown gs ⟨by simpa using hk.1, by simpa using hk.2.1, by simpa using hk.2.2.1, by simpa using hk.2.2.2⟩, putL_rising h.rise hsp, fun q hq => ?_, hkB, Nat.le_trans h.BW C12.size, hk⟩, C12, N10, ?_⟩
  · rw [hp, hpl, ← rcCells_ins l r ⟨key, dat⟩ hsp.le]
    refine own_setM (World.ownsRow.kept (own_below o10 B11) gr ?_) hkB
    exact own_twoM (own_below o10 B11) od' (by decide)
  · have e1 : (ls.take r ++ lf :: ls.drop r).length = ls.length + 1 := by rw [List.length_append, List.length_cons, List.length_take, List.length_drop]; have := hsp.le; omega
    have e2 : txC (ls.take r ++ lf :: ls.drop r) = (txC ls).take (r * 1) ++ [.string lf] ++ (txC ls).drop (r * 1) := by unfold txC; rw [List.map_append, List.map_take, List.map_cons, List.map_drop, Nat.mul_one, List.append_assoc]; rfl
    rw [e1, e2]
    exact own_setM o12 hkB
  · rw [hp, ← hlf]
    exact hlv.put (Ext.refl _) r ⟨key, dat⟩ hm
  · rcases putL_mem hq with rfl | hq
    · exact hz
    · exact h.fit q hq
  · rcases lie with q | q
    · exact Or.inl q.symm
    · exact Or.inr (fun g hg => by
        have : g2 = g := Option.some.inj hg
        have := B11.size
        have := C10.size
        omega)
theorem keepSet {w : World} {a q : Addr} {u v : Value} (h : w.cell? a = some u) (hn : q.block ≠ a.block) : (w.setCell q v).cell? a = some u := (World.cell?_setCell_far w q a v hn).trans h
/-- A record that is there gets another value. -/
theorem old_put {g1 c1 g2 c2 r : Nat} {lf key dat : ByteArray} {ls : List ByteArray} (h : Tre w B k p b x y (note T (leafT ⟨key, dat⟩)) S l (.slice (some ⟨g1, 0, none⟩) l.length c1) (.slice (some ⟨g2, 0, none⟩) ls.length c2)) (hz : key.size ≤ 64 ∧ dat.size ≤ 4096) (hsp : Spot l key r) (hh : hasAt l r key = true) (hlf : dig (note T (leafT ⟨key, dat⟩)) (leafT ⟨key, dat⟩) = lf) (od : w.ownsRow B 9 1 (.slice (some ⟨g2, 0, none⟩) ls.length c2) ls.length (txC ls)) (hlv : Lvs (note T (leafT ⟨key, dat⟩)) l ls) :
    Tre (((w.setCell ⟨g1, r * 2, none⟩ (.string key)).setCell ⟨g1, r * 2 + 1, none⟩ (.string dat)).setCell ⟨g2, r, none⟩ (.string lf)) B k p b x y (note T (leafT ⟨key, dat⟩)) S (putL l r ⟨key, dat⟩) (.slice (some ⟨g1, 0, none⟩) l.length c1) (.slice (some ⟨g2, 0, none⟩) ls.length c2) ∧ Tch k x y (.slice (some ⟨g1, 0, none⟩) l.length c1) (.slice (some ⟨g2, 0, none⟩) ls.length c2) w (((w.setCell ⟨g1, r * 2, none⟩ (.string key)).setCell ⟨g1, r * 2 + 1, none⟩ (.string dat)).setCell ⟨g2, r, none⟩ (.string lf)) := by
  have hkB := h.kB
  have hg1 := (h.rows.lt g1 rfl).1
  have hg2 := (od.lt g2 rfl).1
  obtain ⟨h1, h2⟩ := has_iff.1 hh
  have ll := hlv.len
  have hp : putL l r ⟨key, dat⟩ = l.set r ⟨key, dat⟩ := by unfold putL; rw [show hasAt l r (Rc.mk key dat).key = true from hh]; rfl
  have hgg : g1 ≠ g2 := fun q => by
    rcases own_twoM h.rows od (by decide) with q2 | q2
    · cases q2
    · exact q2 (by rw [q]; rfl)
  have ha1 := h.book.apart h.rows (by decide) (by decide)
  have gA : w.grownBy ((w.setCell ⟨g1, r * 2, none⟩ (.string key)).setCell ⟨g1, r * 2 + 1, none⟩ (.string dat)) (some g1) := (Off.setCell (Off.setCell (Off.refl g1 w) (p := ⟨g1, r * 2, none⟩) rfl (.string key)) (p := ⟨g1, r * 2 + 1, none⟩) rfl (.string dat)).byM
  have oA := ((h.rows.stored (r * 2) (.string key)).1.stored (r * 2 + 1) (.string dat)).1
  have odA := World.ownsRow.kept od gA (Or.inr (fun q => hgg (Option.some.inj q).symm))
  have hBA := h.book.grown gA ha1
  have ha2 := hBA.apart odA (by decide) (by decide)
  have XA : Blk ((w.setCell ⟨g1, r * 2, none⟩ (.string key)).setCell ⟨g1, r * 2 + 1, none⟩ (.string dat)) k _ 64 := (gA.block k h.blk.lt (fun q => by have := Option.some.inj q; omega)).trans h.blk
  generalize hWA : (w.setCell ⟨g1, r * 2, none⟩ (.string key)).setCell ⟨g1, r * 2 + 1, none⟩ (.string dat) = WA at *
  have gB : WA.grownBy (WA.setCell ⟨g2, r, none⟩ (.string lf)) (some g2) := (Off.setCell (Off.refl g2 WA) (p := ⟨g2, r, none⟩) rfl _).byM
  have C : Tch k x y (.slice (some ⟨g1, 0, none⟩) l.length c1) (.slice (some ⟨g2, 0, none⟩) ls.length c2) w (WA.setCell ⟨g2, r, none⟩ (.string lf)) := (Tch.of_grown gA (Or.inl rfl)).trans (Tch.of_grown gB (Or.inr (Or.inl rfl)))
  refine ⟨⟨(gB.block k XA.lt (fun q => by have := Option.some.inj q; omega)).trans XA, ?_, ⟨ls.set r lf, ?_, ?_⟩, hBA.grown gB ha2, putL_rising h.rise hsp, fun q hq => ?_, hkB, Nat.le_trans h.BW C.size, h.away⟩, C⟩
  · rw [hp, List.length_set, ← rcCells_set l r ⟨key, dat⟩ h1]
    exact World.ownsRow.kept oA gB (Or.inr (fun q => hgg (Option.some.inj q)))
  · rw [List.length_set]
    have e2 : txC (ls.set r lf) = (txC ls).set r (.string lf) := by unfold txC; rw [List.map_set]
    rw [e2]
    exact (odA.stored r (.string lf)).1
  · rw [hp, ← hlf]
    exact hlv.set (Ext.refl _) r ⟨key, dat⟩ (mem_noted _ _)
  · rcases putL_mem hq with rfl | hq
    · exact hz
    · exact h.fit q hq
set_option maxHeartbeats 1000000 in
set_option maxRecDepth 100000 in
theorem treePut_bad (key dat : ByteArray) (w : World) (h : Tre w B k p b x y T S l lv dv) (hk : key.size ≤ maxLen) (hd : dat.size ≤ maxLen) (hb : rcBad ⟨key, dat⟩ = true) :
    Calls Tryz.prog 19 #[.pointer (some ⟨k, 0, none⟩), .string key, .string dat] w fun e w' => e = .returned (.int .i64 14) ∧ Below w.heap.size w w' := by
  have HM : Hid _ := madeT_calls p lv dv w h.blk
  have hr := recs_one ⟨key, dat⟩
  rw [if_pos hb] at hr
  have HP : Hid _ := fun (w : World) => putRecords_calls (.slice (some ⟨w.heap.size, 0, none⟩) 1 1) [⟨key, dat⟩] (w.alloc (.cells #[.string key, .string dat] 47)) (Or.inr ⟨_, 0, 1, rfl, fun i hi => by
    have : i = 0 := by simpa using hi
    subst this
    exact ⟨(blk_new w _ _ _ rfl).cell rfl, (blk_new w _ _ _ rfl).cell rfl, hk, hd⟩⟩) (by simp)
  rw [hr] at HP
  clear h
  go_enter Tryz.func19, Tryz.ntmps19
  go_wp2_with fail
  refine Calls.mono HM.out ?_
  rintro e w1 ⟨rfl, rfl⟩
  go_wp2_with fail
  refine Calls.mono (HP.out _) ?_
  rintro e w2 ⟨rfl, b2⟩
  go_wp2
  go_ret
  exact ⟨rfl, chain (by go_grown) b2⟩
set_option maxHeartbeats 16000000 in
set_option maxRecDepth 100000 in
theorem treePut_new (key dat : ByteArray) (w : World) (h : Tre w B k p b x y T S l lv dv) (hl : l.length < 4096) (hT : T.length < 900000) (hb : rcBad ⟨key, dat⟩ = false) (hw : ∀ r, Spot l key r → hasAt l r key = false) :
    Calls Tryz.prog 19 #[.pointer (some ⟨k, 0, none⟩), .string key, .string dat] w fun e w' => e = .returned (.int .i64 0) ∧ ∃ r lv' dv', Spot l key r ∧ Tre w' B k p b x y (note T (leafT ⟨key, dat⟩)) S (putL l r ⟨key, dat⟩) lv' dv' ∧ Tch k x y lv dv w w' ∧ Nx w lv lv' ∧ Nx w dv dv' := by
  have hz : key.size ≤ 64 ∧ dat.size ≤ 4096 := by
    unfold rcBad at hb
    simp only [Bool.or_eq_false_iff, decide_eq_false_iff_not] at hb
    omega
  obtain ⟨hkz, hdz⟩ := hz
  have HM : Hid _ := madeT_calls p lv dv w h.blk
  have hr := recs_one ⟨key, dat⟩
  rw [if_neg (by rw [hb]; decide)] at hr
  have HP : Hid _ := fun (w : World) => putRecords_calls (.slice (some ⟨w.heap.size, 0, none⟩) 1 1) [⟨key, dat⟩] (w.alloc (.cells #[.string key, .string dat] 47)) (Or.inr ⟨_, 0, 1, rfl, fun i hi => by
    have : i = 0 := by simpa using hi
    subst this
    exact ⟨(blk_new w _ _ _ rfl).cell rfl, (blk_new w _ _ _ rfl).cell rfl, by show key.size ≤ _; unfold maxLen; omega, by show dat.size ≤ _; unfold maxLen; omega⟩⟩) (by simp)
  rw [hr] at HP
  have HF : Hid _ := fun (wx : World) (hx : Tre wx B k p b x y T S l lv dv) => find_calls k lv dv _ l key wx hx.blk hx.rcs (by omega) hx.rise
  have HT : Hid _ := h
  obtain ⟨la, lc, hlv⟩ := h.rcs.len
  have HLV : Hid _ := hlv
  clear h hr hlv
  go_enter Tryz.func19, Tryz.ntmps19
  go_wp2_with fail
  refine Calls.mono HM.out ?_
  rintro e w1 ⟨rfl, rfl⟩
  go_wp2_with fail
  refine Calls.mono (HP.out _) ?_
  rintro e w2 ⟨rfl, b2⟩
  have B2 : Below w1.heap.size w1 w2 := chain (by go_grown) b2
  have T2 := Tre.below HT.out B2
  clear b2
  have HT2 : Hid _ := T2
  clear T2
  go_wp2_with fail
  refine Calls.mono (HF.out _ HT2.out) ?_
  rintro e w3 ⟨r, rfl, hsp, b3⟩
  have B3 := chain B2 b3
  have T3 := Tre.below HT2.out b3
  have HT3 : Hid _ := T3
  have HLV := HLV.out
  subst HLV
  have c1 : w3.cell? ⟨k, 1, none⟩ = some (.slice la l.length lc) := T3.blk.cell rfl
  have hlt : ¬ (4096 : Int) ≤ (l.length : Int) := by omega
  have hkc : key.size ≤ 281474976710656 := by omega
  have hdc : dat.size ≤ 281474976710656 := by omega
  clear T3
  have hh := hw r hsp
  clear hw
  rw [hh]
  go_wp2_with fail
  refine Calls.mono (clone_calls key w3 hkc) ?_
  rintro e w4 ⟨rfl, b4⟩
  go_wp2_with fail
  refine Calls.mono (clone_calls dat w4 hdc) ?_
  rintro e w5 ⟨rfl, b5⟩
  have B5 := chain b4 b5
  have T5 := Tre.below HT3.out B5
  obtain ⟨W6, hW6, X6, B6⟩ : ∃ W6, w5.alloc (.cells #[.string key, .string dat] 47) = W6 ∧ Blk W6 w5.heap.size #[.string key, .string dat] 47 ∧ Below w5.heap.size w5 W6 := ⟨_, rfl, blk_new _ _ _ _ rfl, by go_grown⟩
  have T6 := T5.below B6
  have hB6 : Book W6.drew p b x y T S := T6.book.below (Below.refl _ _).drew
  have c0 : W6.cell? ⟨k, 0, none⟩ = some (.pointer (some ⟨p, 0, none⟩)) := T6.blk.cell rfl
  have e0 : W6.cell? ⟨w5.heap.size, 0, none⟩ = some (.string key) := X6.cell rfl
  have e1 : W6.cell? ⟨w5.heap.size, 1, none⟩ = some (.string dat) := X6.cell rfl
  have HT6 : Hid _ := T6
  have HT5 : Hid _ := T5
  clear T6 T5
  go_wp2_with fail
  refine wp_region_held_drew (S := (fun wx => wx.cell? ⟨k, 0, none⟩ = some (.pointer (some ⟨p, 0, none⟩)) ∧ wx.cell? ⟨w5.heap.size, 0, none⟩ = some (.string key) ∧ wx.cell? ⟨w5.heap.size, 1, none⟩ = some (.string dat))) (by kernel_rfl) ⟨c0, e0, e1⟩ (fun hS => ?_)
  refine wpAnyH_take (i := 0) (v := (.pointer (some ⟨k, 0, none⟩))) rfl (by kernel_rfl) (by kernel_rfl) (by kernel_rfl) (fun _ _ _ h => h) (Or.inl ⟨by rfl, fun w hS => by obtain ⟨s0, s1, s2⟩ := hS; go_simp⟩) hS ?_
  refine wpAnyH_take (i := 1) (v := (.pointer (some ⟨k, 0, none⟩))) rfl (by kernel_rfl) (by kernel_rfl) (by kernel_rfl) (fun _ _ _ h => h) (Or.inl ⟨by rfl, fun w hS => by obtain ⟨s0, s1, s2⟩ := hS; go_simp⟩) hS ?_
  refine wpAnyH_take (i := 2) (v := (.pointer (some ⟨k, 0, none⟩))) rfl (by kernel_rfl) (by kernel_rfl) (by kernel_rfl) (fun _ _ _ h => h) (Or.inl ⟨by rfl, fun w hS => by obtain ⟨s0, s1, s2⟩ := hS; go_simp⟩) hS ?_
  refine wpAnyH_take (i := 3) (v := (.pointer (some ⟨p, 0, none⟩))) rfl (by kernel_rfl) (by kernel_rfl) (by kernel_rfl) (fun _ _ _ h => h) (Or.inl ⟨by rfl, fun w hS => by obtain ⟨s0, s1, s2⟩ := hS; go_simp⟩) hS ?_
  refine wpAnyH_take (i := 4) (v := (Rc.val ⟨key, dat⟩)) rfl (by kernel_rfl) (by kernel_rfl) (by kernel_rfl) (fun _ _ _ h => h) (Or.inl ⟨by rfl, fun w hS => by obtain ⟨s0, s1, s2⟩ := hS; go_simp; rfl⟩) hS ?_
  refine wpAnyH_ready (rs := [5]) (by kernel_rfl) (by simp) ?_
  refine AllReadyH.cons rfl (fun K hK => ?_) AllReadyH.nil
  go_simp
  refine (leafOf_calls ⟨key, dat⟩ _ hB6 (by omega) (by show key.size ≤ _; omega) (by show dat.size ≤ _; omega)).mono ?_
  rintro e w7 A
  obtain rfl := A.ret
  refine hK.out _ _ ⟨keepCell2 hB6 A.off hS.1, keepCell2 hB6 A.off hS.2.1, keepCell2 hB6 A.off hS.2.2⟩ (fun hS => ?_)
  clear hK
  refine wpAnyH_ready (rs := [6]) (by kernel_rfl) (by simp) ?_
  refine AllReadyH.cons rfl (fun K hK => ?_) AllReadyH.nil
  go_simp
  refine hK.out _ _ hS (fun hS => ?_)
  clear hK
  refine wpAnyH_done (by kernel_rfl) ?_ _
  have T7 : Tre w7 B k p b x y (note T (leafT ⟨key, dat⟩)) S l (.slice la l.length lc) dv := Tre.grew (Tre.below HT6.out (Below.refl _ _).drew) A.grew
  have c1 : w7.cell? ⟨k, 1, none⟩ = some (.slice la l.length lc) := T7.blk.cell rfl
  have e0 : w7.cell? ⟨w5.heap.size, 0, none⟩ = some (.string key) := hS.2.1
  have e1 : w7.cell? ⟨w5.heap.size, 1, none⟩ = some (.string dat) := hS.2.2
  have C7 : Tch k x y (.slice la l.length lc) dv w1 w7 := ((Tch.of_below (chain (chain B3 B5) B6)).trans (Tch.of_below (Below.refl _ _).drew)).trans (Tch.of_off2 A.off)
  have Z7 : w1.heap.size ≤ w7.heap.size := C7.size
  have HT7 : Hid _ := T7
  generalize hLF : dig (note T (leafT ⟨key, dat⟩)) (leafT ⟨key, dat⟩) = lf at *
  have HLF : Hid _ := hLF
  clear hS A c0 hB6 hW6 X6 B6 b4 b5 B5 b3 B2 hLF T7 hlt hkc hdc
  clear HP HM HF HT HT2 HT3 HT5 HT6
  obtain ⟨W8, hW8, X8, B8, o8, hBW, hvb8⟩ : ∃ W8, w7.drew.alloc (.cells #[.string key, .string dat] 47) = W8 ∧ Blk W8 w7.heap.size #[.string key, .string dat] 47 ∧ Below w7.heap.size w7 W8 ∧ W8.ownsRow B 47 2 (.slice la l.length lc) l.length (rcCells l) ∧ B ≤ W8.heap.size ∧ (Value.slice la l.length lc).ownBlock ≠ some w7.heap.size := by
    have bb : Below w7.heap.size w7 (w7.drew.alloc (.cells #[.string key, .string dat] 47)) := ((Below.refl _ _).drew).alloc (Nat.le_refl _) _
    exact ⟨_, rfl, blk_new _ _ _ _ rfl, bb, own_below (HT7.out).rows bb, Nat.le_trans (HT7.out).BW bb.size, fun q => by have := ((HT7.out).rows.lt _ q).2; omega⟩
  have c18 : W8.cell? ⟨k, 1, none⟩ = some (.slice la l.length lc) := keepCell B8 c1
  go_wp2_with fail
  refine wp_region_any (by kernel_rfl) ?_
  change wpAny _ _ _ _ _ _ _ (World.drew _)
  refine wpAny_take (i := 0) (v := (.pointer (some ⟨k, 0, none⟩))) rfl (by kernel_rfl) (by kernel_rfl) (by kernel_rfl) (fun _ _ _ h => h) (Or.inl ⟨by rfl, fun w => by go_simp⟩) ?_
  refine wpAny_take (i := 1) (v := (.pointer (some ⟨k, 0, none⟩))) rfl (by kernel_rfl) (by kernel_rfl) (by kernel_rfl) (fun _ _ _ h => h) (Or.inl ⟨by rfl, fun w => by go_simp⟩) ?_
  refine wpAny_take (i := 2) (v := (.pointer (some ⟨k, 0, none⟩))) rfl (by kernel_rfl) (by kernel_rfl) (by kernel_rfl) (fun _ _ _ h => h) (Or.inl ⟨by rfl, fun w => by go_simp⟩) ?_
  refine wpAny_take (i := 3) (v := (.pointer (some ⟨k, 1, none⟩))) rfl (by kernel_rfl) (by kernel_rfl) (by kernel_rfl) (fun _ _ _ h => h) (Or.inl ⟨by rfl, fun w => by go_simp⟩) ?_
  refine wpAny_take (i := 5) (v := (.int .i64 r)) rfl (by kernel_rfl) (by kernel_rfl) (by kernel_rfl) (fun _ _ _ h => h) (Or.inl ⟨by rfl, fun w => by go_simp⟩) ?_
  refine wpAny_ready (rs := [4, 6]) (by kernel_rfl) (by simp) ?_
  refine AllReady.cons rfl (fun K hK => ?_) (AllReady.cons rfl (fun K hK => ?_) AllReady.nil)
  · go_simp
    refine hK _ _ ?_
    clear hK
    refine wpAny_ready (rs := [6]) (by kernel_rfl) (by simp) ?_
    refine AllReady.cons rfl (fun K hK => ?_) AllReady.nil
    go_simp
    refine hK _ _ ?_
    clear hK
    refine wpAny_ready (rs := [7]) (by kernel_rfl) (by simp) ?_
    refine AllReady.cons rfl (fun K hK => ?_) AllReady.nil
    go_simp
    refine hK _ _ ?_
    clear hK
    refine wpAny_ready (rs := [8]) (by kernel_rfl) (by simp) ?_
    refine AllReady.cons rfl (fun K hK => ?_) AllReady.nil
    go_simp
    refine (insR_calls B l.length r w7.heap.size (.slice la l.length lc) (rcCells l) #[.string key, .string dat] 47 W8 o8 X8 rfl hsp.le (by omega) hBW (by intro u hu; simp at hu; rcases hu with rfl | rfl <;> rfl) (rcCells_one l) hvb8).mono ?_
    rintro e w9 ⟨g1, cp1, rfl, o9, gr9, lie9⟩
    refine hK _ _ ?_
    clear hK
    obtain ⟨X9, X10, o10, od10, hB10, C10, N10⟩ := half_put HT7.out B8 o9 gr9 lie9
    have f9 : w9.frozen? ⟨k, 1, none⟩ = false := X9.frozen
    have d9 : w9.cell? ⟨k, 1, none⟩ = some (.slice la l.length lc) := X9.cell rfl
    have HX : Hid _ := And.intro X10 (And.intro o10 (And.intro od10 (And.intro hB10 (And.intro C10 N10))))
    clear X10 o10 od10 hB10 C10 N10 o9 gr9 lie9
    refine wpAny_ready (rs := [9]) (by kernel_rfl) (by simp) ?_
    refine AllReady.cons rfl (fun K hK => ?_) AllReady.nil
    go_simp
    refine hK _ _ ?_
    clear hK
    refine wpAny_ready (rs := [10]) (by kernel_rfl) (by simp) ?_
    refine AllReady.cons rfl (fun K hK => ?_) AllReady.nil
    go_simp
    refine hK _ _ ?_
    clear hK
    refine wpAny_ready (rs := [11]) (by kernel_rfl) (by simp) ?_
    refine AllReady.cons rfl (fun K hK => ?_) AllReady.nil
    go_simp
    refine hK _ _ ?_
    clear hK
    refine wpAny_done (by kernel_rfl) ?_ _
    obtain ⟨X10, o10, od10, hB10, C10, N10⟩ := HX.out
    clear HX
    generalize hW10 : w9.setCell ⟨k, 1, none⟩ (.slice (some ⟨g1, 0, none⟩) (l.length + 1) cp1) = W10 at *
    clear hW10 hW8 X8 B8 o8 hBW hvb8 c18 c1 e0 e1 f9 d9 X9 B3
    obtain ⟨ls, od7, hlv7⟩ := (HT7.out).lvs
    have ll := hlv7.len
    have od := od10 _ _ od7
    obtain ⟨da, dc, rfl⟩ := own_sliceM od
    have c2 : W10.cell? ⟨k, 2, none⟩ = some (.slice da ls.length dc) := X10.cell rfl
    obtain ⟨W11, hW11, X11, B11⟩ : ∃ W11, W10.alloc (.cells #[.string lf] 9) = W11 ∧ Blk W11 W10.heap.size #[.string lf] 9 ∧ Below W10.heap.size W10 W11 := ⟨_, rfl, blk_new _ _ _ _ rfl, by go_grown⟩
    have hBW10 : B ≤ W10.heap.size := Nat.le_trans (HT7.out).BW C10.size
    have HI : Hid _ := insT_calls B ls.length r W10.heap.size (.slice da ls.length dc) (txC ls) #[.string lf] 9 W11 (own_below od B11) X11 rfl (by rw [ll]; exact hsp.le) (by omega) (Nat.le_trans hBW10 B11.size) (by intro u hu; simp at hu; subst hu; rfl) (txC_one ls) (fun q => by have := (od.lt _ q).2; omega)
    have HY : Hid _ := And.intro X10 (And.intro o10 (And.intro od (And.intro hB10 (And.intro C10 (And.intro N10 (And.intro B11 (And.intro hlv7 C7)))))))
    have d11 : W11.cell? ⟨k, 2, none⟩ = some (.slice da ls.length dc) := (X10.below B11).cell rfl
    have HSP : Hid _ := And.intro hsp hh
    clear X10 o10 od10 hB10 C10 N10 od7 hlv7 od B11 X11 hBW10 C7 ll hsp hh hb
    go_wp2_with fail
    refine Calls.mono HI.out ?_
    rintro e w12 ⟨g2, cp2, rfl, o12, gr12, lie12⟩
    obtain ⟨X10, o10, od, hB10, C10, N10, B11, hlv7, C7⟩ := HY.out
    obtain ⟨hsp, hh⟩ := HSP.out
    obtain ⟨X12, HFIN⟩ := rest_put HT7.out ⟨hkz, hdz⟩ hsp hh HLF.out hlv7 X10 o10 od hB10 C10 N10 B11 o12 gr12 lie12
    have f12 : w12.frozen? ⟨k, 2, none⟩ = false := X12.frozen
    have d12 : w12.cell? ⟨k, 2, none⟩ = some (.slice da ls.length dc) := X12.cell rfl
    have HZ : Hid _ := And.intro HFIN C7
    clear HFIN X10 o10 od hB10 C10 N10 B11 hlv7 o12 gr12 lie12 HY HI X12 hsp hh C7 hW11 d11 c2
    go_wp2
    go_ret
    obtain ⟨⟨h1, h2, h3, h4⟩, C7⟩ := HZ.out
    obtain ⟨hsp, hh⟩ := HSP.out
    exact ⟨rfl, r, _, _, hsp, h1, C7.trans h2, Nx.far h3 Z7, Nx.far h4 Z7⟩
  · go_simp
    refine hK _ _ ?_
    clear hK
    refine wpAny_ready (rs := [4, 7]) (by kernel_rfl) (by simp) ?_
    refine AllReady.cons rfl (fun K hK => ?_) (AllReady.cons rfl (fun K hK => ?_) AllReady.nil)
    · go_simp
      refine hK _ _ ?_
      clear hK
      refine wpAny_ready (rs := [7]) (by kernel_rfl) (by simp) ?_
      refine AllReady.cons rfl (fun K hK => ?_) AllReady.nil
      go_simp
      refine hK _ _ ?_
      clear hK
      refine wpAny_ready (rs := [8]) (by kernel_rfl) (by simp) ?_
      refine AllReady.cons rfl (fun K hK => ?_) AllReady.nil
      go_simp
      refine (insR_calls B l.length r w7.heap.size (.slice la l.length lc) (rcCells l) #[.string key, .string dat] 47 W8 o8 X8 rfl hsp.le (by omega) hBW (by intro u hu; simp at hu; rcases hu with rfl | rfl <;> rfl) (rcCells_one l) hvb8).mono ?_
      rintro e w9 ⟨g1, cp1, rfl, o9, gr9, lie9⟩
      refine hK _ _ ?_
      clear hK
      obtain ⟨X9, X10, o10, od10, hB10, C10, N10⟩ := half_put HT7.out B8 o9 gr9 lie9
      have f9 : w9.frozen? ⟨k, 1, none⟩ = false := X9.frozen
      have d9 : w9.cell? ⟨k, 1, none⟩ = some (.slice la l.length lc) := X9.cell rfl
      have HX : Hid _ := And.intro X10 (And.intro o10 (And.intro od10 (And.intro hB10 (And.intro C10 N10))))
      clear X10 o10 od10 hB10 C10 N10 o9 gr9 lie9
      refine wpAny_ready (rs := [9]) (by kernel_rfl) (by simp) ?_
      refine AllReady.cons rfl (fun K hK => ?_) AllReady.nil
      go_simp
      refine hK _ _ ?_
      clear hK
      refine wpAny_ready (rs := [10]) (by kernel_rfl) (by simp) ?_
      refine AllReady.cons rfl (fun K hK => ?_) AllReady.nil
      go_simp
      refine hK _ _ ?_
      clear hK
      refine wpAny_ready (rs := [11]) (by kernel_rfl) (by simp) ?_
      refine AllReady.cons rfl (fun K hK => ?_) AllReady.nil
      go_simp
      refine hK _ _ ?_
      clear hK
      refine wpAny_done (by kernel_rfl) ?_ _
      obtain ⟨X10, o10, od10, hB10, C10, N10⟩ := HX.out
      clear HX
      generalize hW10 : w9.setCell ⟨k, 1, none⟩ (.slice (some ⟨g1, 0, none⟩) (l.length + 1) cp1) = W10 at *
      clear hW10 hW8 X8 B8 o8 hBW hvb8 c18 c1 e0 e1 f9 d9 X9 B3
      obtain ⟨ls, od7, hlv7⟩ := (HT7.out).lvs
      have ll := hlv7.len
      have od := od10 _ _ od7
      obtain ⟨da, dc, rfl⟩ := own_sliceM od
      have c2 : W10.cell? ⟨k, 2, none⟩ = some (.slice da ls.length dc) := X10.cell rfl
      obtain ⟨W11, hW11, X11, B11⟩ : ∃ W11, W10.alloc (.cells #[.string lf] 9) = W11 ∧ Blk W11 W10.heap.size #[.string lf] 9 ∧ Below W10.heap.size W10 W11 := ⟨_, rfl, blk_new _ _ _ _ rfl, by go_grown⟩
      have hBW10 : B ≤ W10.heap.size := Nat.le_trans (HT7.out).BW C10.size
      have HI : Hid _ := insT_calls B ls.length r W10.heap.size (.slice da ls.length dc) (txC ls) #[.string lf] 9 W11 (own_below od B11) X11 rfl (by rw [ll]; exact hsp.le) (by omega) (Nat.le_trans hBW10 B11.size) (by intro u hu; simp at hu; subst hu; rfl) (txC_one ls) (fun q => by have := (od.lt _ q).2; omega)
      have HY : Hid _ := And.intro X10 (And.intro o10 (And.intro od (And.intro hB10 (And.intro C10 (And.intro N10 (And.intro B11 (And.intro hlv7 C7)))))))
      have d11 : W11.cell? ⟨k, 2, none⟩ = some (.slice da ls.length dc) := (X10.below B11).cell rfl
      have HSP : Hid _ := And.intro hsp hh
      clear X10 o10 od10 hB10 C10 N10 od7 hlv7 od B11 X11 hBW10 C7 ll hsp hh hb
      go_wp2_with fail
      refine Calls.mono HI.out ?_
      rintro e w12 ⟨g2, cp2, rfl, o12, gr12, lie12⟩
      obtain ⟨X10, o10, od, hB10, C10, N10, B11, hlv7, C7⟩ := HY.out
      obtain ⟨hsp, hh⟩ := HSP.out
      obtain ⟨X12, HFIN⟩ := rest_put HT7.out ⟨hkz, hdz⟩ hsp hh HLF.out hlv7 X10 o10 od hB10 C10 N10 B11 o12 gr12 lie12
      have f12 : w12.frozen? ⟨k, 2, none⟩ = false := X12.frozen
      have d12 : w12.cell? ⟨k, 2, none⟩ = some (.slice da ls.length dc) := X12.cell rfl
      have HZ : Hid _ := And.intro HFIN C7
      clear HFIN X10 o10 od hB10 C10 N10 B11 hlv7 o12 gr12 lie12 HY HI X12 hsp hh C7 hW11 d11 c2
      go_wp2
      go_ret
      obtain ⟨⟨h1, h2, h3, h4⟩, C7⟩ := HZ.out
      obtain ⟨hsp, hh⟩ := HSP.out
      exact ⟨rfl, r, _, _, hsp, h1, C7.trans h2, Nx.far h3 Z7, Nx.far h4 Z7⟩
    · go_simp
      refine hK _ _ ?_
      clear hK
      refine wpAny_ready (rs := [4]) (by kernel_rfl) (by simp) ?_
      refine AllReady.cons rfl (fun K hK => ?_) AllReady.nil
      go_simp
      refine hK _ _ ?_
      clear hK
      refine wpAny_ready (rs := [8]) (by kernel_rfl) (by simp) ?_
      refine AllReady.cons rfl (fun K hK => ?_) AllReady.nil
      go_simp
      refine (insR_calls B l.length r w7.heap.size (.slice la l.length lc) (rcCells l) #[.string key, .string dat] 47 W8 o8 X8 rfl hsp.le (by omega) hBW (by intro u hu; simp at hu; rcases hu with rfl | rfl <;> rfl) (rcCells_one l) hvb8).mono ?_
      rintro e w9 ⟨g1, cp1, rfl, o9, gr9, lie9⟩
      refine hK _ _ ?_
      clear hK
      obtain ⟨X9, X10, o10, od10, hB10, C10, N10⟩ := half_put HT7.out B8 o9 gr9 lie9
      have f9 : w9.frozen? ⟨k, 1, none⟩ = false := X9.frozen
      have d9 : w9.cell? ⟨k, 1, none⟩ = some (.slice la l.length lc) := X9.cell rfl
      have HX : Hid _ := And.intro X10 (And.intro o10 (And.intro od10 (And.intro hB10 (And.intro C10 N10))))
      clear X10 o10 od10 hB10 C10 N10 o9 gr9 lie9
      refine wpAny_ready (rs := [9]) (by kernel_rfl) (by simp) ?_
      refine AllReady.cons rfl (fun K hK => ?_) AllReady.nil
      go_simp
      refine hK _ _ ?_
      clear hK
      refine wpAny_ready (rs := [10]) (by kernel_rfl) (by simp) ?_
      refine AllReady.cons rfl (fun K hK => ?_) AllReady.nil
      go_simp
      refine hK _ _ ?_
      clear hK
      refine wpAny_ready (rs := [11]) (by kernel_rfl) (by simp) ?_
      refine AllReady.cons rfl (fun K hK => ?_) AllReady.nil
      go_simp
      refine hK _ _ ?_
      clear hK
      refine wpAny_done (by kernel_rfl) ?_ _
      obtain ⟨X10, o10, od10, hB10, C10, N10⟩ := HX.out
      clear HX
      generalize hW10 : w9.setCell ⟨k, 1, none⟩ (.slice (some ⟨g1, 0, none⟩) (l.length + 1) cp1) = W10 at *
      clear hW10 hW8 X8 B8 o8 hBW hvb8 c18 c1 e0 e1 f9 d9 X9 B3
      obtain ⟨ls, od7, hlv7⟩ := (HT7.out).lvs
      have ll := hlv7.len
      have od := od10 _ _ od7
      obtain ⟨da, dc, rfl⟩ := own_sliceM od
      have c2 : W10.cell? ⟨k, 2, none⟩ = some (.slice da ls.length dc) := X10.cell rfl
      obtain ⟨W11, hW11, X11, B11⟩ : ∃ W11, W10.alloc (.cells #[.string lf] 9) = W11 ∧ Blk W11 W10.heap.size #[.string lf] 9 ∧ Below W10.heap.size W10 W11 := ⟨_, rfl, blk_new _ _ _ _ rfl, by go_grown⟩
      have hBW10 : B ≤ W10.heap.size := Nat.le_trans (HT7.out).BW C10.size
      have HI : Hid _ := insT_calls B ls.length r W10.heap.size (.slice da ls.length dc) (txC ls) #[.string lf] 9 W11 (own_below od B11) X11 rfl (by rw [ll]; exact hsp.le) (by omega) (Nat.le_trans hBW10 B11.size) (by intro u hu; simp at hu; subst hu; rfl) (txC_one ls) (fun q => by have := (od.lt _ q).2; omega)
      have HY : Hid _ := And.intro X10 (And.intro o10 (And.intro od (And.intro hB10 (And.intro C10 (And.intro N10 (And.intro B11 (And.intro hlv7 C7)))))))
      have d11 : W11.cell? ⟨k, 2, none⟩ = some (.slice da ls.length dc) := (X10.below B11).cell rfl
      have HSP : Hid _ := And.intro hsp hh
      clear X10 o10 od10 hB10 C10 N10 od7 hlv7 od B11 X11 hBW10 C7 ll hsp hh hb
      go_wp2_with fail
      refine Calls.mono HI.out ?_
      rintro e w12 ⟨g2, cp2, rfl, o12, gr12, lie12⟩
      obtain ⟨X10, o10, od, hB10, C10, N10, B11, hlv7, C7⟩ := HY.out
      obtain ⟨hsp, hh⟩ := HSP.out
      obtain ⟨X12, HFIN⟩ := rest_put HT7.out ⟨hkz, hdz⟩ hsp hh HLF.out hlv7 X10 o10 od hB10 C10 N10 B11 o12 gr12 lie12
      have f12 : w12.frozen? ⟨k, 2, none⟩ = false := X12.frozen
      have d12 : w12.cell? ⟨k, 2, none⟩ = some (.slice da ls.length dc) := X12.cell rfl
      have HZ : Hid _ := And.intro HFIN C7
      clear HFIN X10 o10 od hB10 C10 N10 B11 hlv7 o12 gr12 lie12 HY HI X12 hsp hh C7 hW11 d11 c2
      go_wp2
      go_ret
      obtain ⟨⟨h1, h2, h3, h4⟩, C7⟩ := HZ.out
      obtain ⟨hsp, hh⟩ := HSP.out
      exact ⟨rfl, r, _, _, hsp, h1, C7.trans h2, Nx.far h3 Z7, Nx.far h4 Z7⟩

set_option maxHeartbeats 16000000 in
set_option maxRecDepth 100000 in
theorem treePut_old (key dat : ByteArray) (w : World) (h : Tre w B k p b x y T S l lv dv) (hl : l.length < 4096) (hT : T.length < 900000) (hb : rcBad ⟨key, dat⟩ = false) (hw : ∀ r, Spot l key r → hasAt l r key = true) :
    Calls Tryz.prog 19 #[.pointer (some ⟨k, 0, none⟩), .string key, .string dat] w fun e w' => e = .returned (.int .i64 0) ∧ ∃ r lv' dv', Spot l key r ∧ Tre w' B k p b x y (note T (leafT ⟨key, dat⟩)) S (putL l r ⟨key, dat⟩) lv' dv' ∧ Tch k x y lv dv w w' ∧ Nx w lv lv' ∧ Nx w dv dv' := by
  have hz : key.size ≤ 64 ∧ dat.size ≤ 4096 := by
    unfold rcBad at hb
    simp only [Bool.or_eq_false_iff, decide_eq_false_iff_not] at hb
    omega
  obtain ⟨hkz, hdz⟩ := hz
  have HM : Hid _ := madeT_calls p lv dv w h.blk
  have hr := recs_one ⟨key, dat⟩
  rw [if_neg (by rw [hb]; decide)] at hr
  have HP : Hid _ := fun (w : World) => putRecords_calls (.slice (some ⟨w.heap.size, 0, none⟩) 1 1) [⟨key, dat⟩] (w.alloc (.cells #[.string key, .string dat] 47)) (Or.inr ⟨_, 0, 1, rfl, fun i hi => by
    have : i = 0 := by simpa using hi
    subst this
    exact ⟨(blk_new w _ _ _ rfl).cell rfl, (blk_new w _ _ _ rfl).cell rfl, by show key.size ≤ _; unfold maxLen; omega, by show dat.size ≤ _; unfold maxLen; omega⟩⟩) (by simp)
  rw [hr] at HP
  have HF : Hid _ := fun (wx : World) (hx : Tre wx B k p b x y T S l lv dv) => find_calls k lv dv _ l key wx hx.blk hx.rcs (by omega) hx.rise
  have HT : Hid _ := h
  obtain ⟨la, lc, hlv⟩ := h.rcs.len
  have HLV : Hid _ := hlv
  clear h hr hlv
  go_enter Tryz.func19, Tryz.ntmps19
  go_wp2_with fail
  refine Calls.mono HM.out ?_
  rintro e w1 ⟨rfl, rfl⟩
  go_wp2_with fail
  refine Calls.mono (HP.out _) ?_
  rintro e w2 ⟨rfl, b2⟩
  have B2 : Below w1.heap.size w1 w2 := chain (by go_grown) b2
  have T2 := Tre.below HT.out B2
  clear b2
  have HT2 : Hid _ := T2
  clear T2
  go_wp2_with fail
  refine Calls.mono (HF.out _ HT2.out) ?_
  rintro e w3 ⟨r, rfl, hsp, b3⟩
  have B3 := chain B2 b3
  have T3 := Tre.below HT2.out b3
  have HT3 : Hid _ := T3
  have HLV := HLV.out
  subst HLV
  have c1 : w3.cell? ⟨k, 1, none⟩ = some (.slice la l.length lc) := T3.blk.cell rfl
  have hlt : ¬ (4096 : Int) ≤ (l.length : Int) := by omega
  have hkc : key.size ≤ 281474976710656 := by omega
  have hdc : dat.size ≤ 281474976710656 := by omega
  clear T3
  have hh := hw r hsp
  clear hw
  rw [hh]
  go_wp2_with fail
  refine Calls.mono (clone_calls key w3 hkc) ?_
  rintro e w4 ⟨rfl, b4⟩
  go_wp2_with fail
  refine Calls.mono (clone_calls dat w4 hdc) ?_
  rintro e w5 ⟨rfl, b5⟩
  have B5 := chain b4 b5
  have T5 := Tre.below HT3.out B5
  obtain ⟨W6, hW6, X6, B6⟩ : ∃ W6, w5.alloc (.cells #[.string key, .string dat] 47) = W6 ∧ Blk W6 w5.heap.size #[.string key, .string dat] 47 ∧ Below w5.heap.size w5 W6 := ⟨_, rfl, blk_new _ _ _ _ rfl, by go_grown⟩
  have T6 := T5.below B6
  have hB6 : Book W6.drew p b x y T S := T6.book.below (Below.refl _ _).drew
  have c0 : W6.cell? ⟨k, 0, none⟩ = some (.pointer (some ⟨p, 0, none⟩)) := T6.blk.cell rfl
  have e0 : W6.cell? ⟨w5.heap.size, 0, none⟩ = some (.string key) := X6.cell rfl
  have e1 : W6.cell? ⟨w5.heap.size, 1, none⟩ = some (.string dat) := X6.cell rfl
  have HT6 : Hid _ := T6
  have HT5 : Hid _ := T5
  clear T6 T5
  go_wp2_with fail
  refine wp_region_held_drew (S := (fun wx => wx.cell? ⟨k, 0, none⟩ = some (.pointer (some ⟨p, 0, none⟩)) ∧ wx.cell? ⟨w5.heap.size, 0, none⟩ = some (.string key) ∧ wx.cell? ⟨w5.heap.size, 1, none⟩ = some (.string dat))) (by kernel_rfl) ⟨c0, e0, e1⟩ (fun hS => ?_)
  refine wpAnyH_take (i := 0) (v := (.pointer (some ⟨k, 0, none⟩))) rfl (by kernel_rfl) (by kernel_rfl) (by kernel_rfl) (fun _ _ _ h => h) (Or.inl ⟨by rfl, fun w hS => by obtain ⟨s0, s1, s2⟩ := hS; go_simp⟩) hS ?_
  refine wpAnyH_take (i := 1) (v := (.pointer (some ⟨k, 0, none⟩))) rfl (by kernel_rfl) (by kernel_rfl) (by kernel_rfl) (fun _ _ _ h => h) (Or.inl ⟨by rfl, fun w hS => by obtain ⟨s0, s1, s2⟩ := hS; go_simp⟩) hS ?_
  refine wpAnyH_take (i := 2) (v := (.pointer (some ⟨k, 0, none⟩))) rfl (by kernel_rfl) (by kernel_rfl) (by kernel_rfl) (fun _ _ _ h => h) (Or.inl ⟨by rfl, fun w hS => by obtain ⟨s0, s1, s2⟩ := hS; go_simp⟩) hS ?_
  refine wpAnyH_take (i := 3) (v := (.pointer (some ⟨p, 0, none⟩))) rfl (by kernel_rfl) (by kernel_rfl) (by kernel_rfl) (fun _ _ _ h => h) (Or.inl ⟨by rfl, fun w hS => by obtain ⟨s0, s1, s2⟩ := hS; go_simp⟩) hS ?_
  refine wpAnyH_take (i := 4) (v := (Rc.val ⟨key, dat⟩)) rfl (by kernel_rfl) (by kernel_rfl) (by kernel_rfl) (fun _ _ _ h => h) (Or.inl ⟨by rfl, fun w hS => by obtain ⟨s0, s1, s2⟩ := hS; go_simp; rfl⟩) hS ?_
  refine wpAnyH_ready (rs := [5]) (by kernel_rfl) (by simp) ?_
  refine AllReadyH.cons rfl (fun K hK => ?_) AllReadyH.nil
  go_simp
  refine (leafOf_calls ⟨key, dat⟩ _ hB6 (by omega) (by show key.size ≤ _; omega) (by show dat.size ≤ _; omega)).mono ?_
  rintro e w7 A
  obtain rfl := A.ret
  refine hK.out _ _ ⟨keepCell2 hB6 A.off hS.1, keepCell2 hB6 A.off hS.2.1, keepCell2 hB6 A.off hS.2.2⟩ (fun hS => ?_)
  clear hK
  refine wpAnyH_ready (rs := [6]) (by kernel_rfl) (by simp) ?_
  refine AllReadyH.cons rfl (fun K hK => ?_) AllReadyH.nil
  go_simp
  refine hK.out _ _ hS (fun hS => ?_)
  clear hK
  refine wpAnyH_done (by kernel_rfl) ?_ _
  have T7 : Tre w7 B k p b x y (note T (leafT ⟨key, dat⟩)) S l (.slice la l.length lc) dv := Tre.grew (Tre.below HT6.out (Below.refl _ _).drew) A.grew
  have c1 : w7.cell? ⟨k, 1, none⟩ = some (.slice la l.length lc) := T7.blk.cell rfl
  have e0 : w7.cell? ⟨w5.heap.size, 0, none⟩ = some (.string key) := hS.2.1
  have e1 : w7.cell? ⟨w5.heap.size, 1, none⟩ = some (.string dat) := hS.2.2
  have C7 : Tch k x y (.slice la l.length lc) dv w1 w7 := ((Tch.of_below (chain (chain B3 B5) B6)).trans (Tch.of_below (Below.refl _ _).drew)).trans (Tch.of_off2 A.off)
  have Z7 : w1.heap.size ≤ w7.heap.size := C7.size
  have HT7 : Hid _ := T7
  generalize hLF : dig (note T (leafT ⟨key, dat⟩)) (leafT ⟨key, dat⟩) = lf at *
  have HLF : Hid _ := hLF
  have hX1 : ∀ g, (Value.slice la l.length lc).ownBlock = some g → g ≠ w5.heap.size := fun g hg q => by have := ((HT5.out).rows.lt g hg).2; omega
  have hX2 : ∀ g, dv.ownBlock = some g → g ≠ w5.heap.size := fun g hg q => by
    obtain ⟨_, o5, _⟩ := (HT5.out).lvs
    have := (o5.lt g hg).2; omega
  clear hS A c0 hB6 hW6 X6 B6 b4 b5 B5 b3 B2 hLF T7 hlt hkc hdc
  clear HP HM HF HT HT2 HT3 HT5 HT6
  obtain ⟨ls, od, hlv⟩ := (HT7.out).lvs
  have ll := hlv.len
  obtain ⟨hrl, _⟩ := has_iff.1 hh
  have o7 := (HT7.out).rows
  obtain ⟨g1, lc', q1, hg1, hg1w⟩ := o7.form (by omega)
  injection q1 with q1 _ q1'
  subst q1 q1'
  obtain ⟨g2, dc, rfl, hg2, hg2w⟩ := od.form (by omega)
  have hkB := (HT7.out).kB
  have c2 : w7.cell? ⟨k, 2, none⟩ = some (.slice (some ⟨g2, 0, none⟩) ls.length dc) := (HT7.out).blk.cell rfl
  have hr1 : (r : Int) < (l.length : Int) := by omega
  have hr2 : (r : Int) < (ls.length : Int) := by omega
  have q0 : w7.cell? ⟨g1, r * 2, none⟩ = some (.string l[r].key) := by rw [o7.cellAt _ (by omega)]; exact (rcCells_at l r hrl).1
  have q1 : w7.cell? ⟨g1, r * 2 + 1, none⟩ = some (.string l[r].dat) := by rw [o7.cellAt _ (by omega)]; exact (rcCells_at l r hrl).2
  have z0 : ∀ j, w7.frozen? ⟨g1, j, none⟩ = false := fun j => o7.frozenAt j
  have q2 : w7.cell? ⟨g2, r, none⟩ = some (.string ls[r]) := by rw [od.cellAt _ (by omega)]; simp [txC, List.getElem?_eq_getElem (show r < ls.length by omega)]
  have z2 : ∀ j, w7.frozen? ⟨g2, j, none⟩ = false := fun j => od.frozenAt j
  have hgg : g1 ≠ g2 := fun q => by
    rcases own_twoM o7 od (by decide) with q2 | q2
    · cases q2
    · exact q2 (by rw [q]; rfl)
  have hgg2 : g2 ≠ g1 := fun q => hgg q.symm
  have HZ : Hid _ := old_put HT7.out ⟨hkz, hdz⟩ hsp hh HLF.out od hlv
  have HSP : Hid _ := And.intro hsp hh
  generalize hXX : w5.heap.size = X at *
  have hx1 : g1 ≠ X := hX1 g1 rfl
  have hx2 : g2 ≠ X := hX2 g2 rfl
  clear hX1 hX2 hXX
  generalize l[r].key = lk at *
  generalize l[r].dat = ld at *
  generalize ls[r] = lo at *
  clear hsp hh o7 od hlv ll hrl hb HT7 HLF
  go_wp2_with fail
  refine wp_region_held_drew (S := (fun wx => wx.cell? ⟨k, 1, none⟩ = some (.slice (some ⟨g1, 0, none⟩) l.length lc) ∧ wx.cell? ⟨k, 2, none⟩ = some (.slice (some ⟨g2, 0, none⟩) ls.length dc) ∧ wx.cell? ⟨X, 0, none⟩ = some (.string key) ∧ wx.cell? ⟨X, 1, none⟩ = some (.string dat))) (by kernel_rfl) ⟨c1, c2, e0, e1⟩ (fun hS => ?_)
  refine wpAnyH_take (i := 0) (v := (.pointer (some ⟨k, 0, none⟩))) rfl (by kernel_rfl) (by kernel_rfl) (by kernel_rfl) (fun _ _ _ h => h) (Or.inl ⟨by rfl, fun w hS => by obtain ⟨s0, s1, s2, s3⟩ := hS; go_simp⟩) hS ?_
  refine wpAnyH_take (i := 1) (v := (.pointer (some ⟨k, 0, none⟩))) rfl (by kernel_rfl) (by kernel_rfl) (by kernel_rfl) (fun _ _ _ h => h) (Or.inl ⟨by rfl, fun w hS => by obtain ⟨s0, s1, s2, s3⟩ := hS; go_simp⟩) hS ?_
  refine wpAnyH_take (i := 2) (v := (.pointer (some ⟨k, 1, none⟩))) rfl (by kernel_rfl) (by kernel_rfl) (by kernel_rfl) (fun _ _ _ h => h) (Or.inl ⟨by rfl, fun w hS => by obtain ⟨s0, s1, s2, s3⟩ := hS; go_simp⟩) hS ?_
  refine wpAnyH_take (i := 3) (v := (.slice (some ⟨g1, 0, none⟩) l.length lc)) rfl (by kernel_rfl) (by kernel_rfl) (by kernel_rfl) (fun _ _ _ h => h) (Or.inl ⟨by rfl, fun w hS => by obtain ⟨s0, s1, s2, s3⟩ := hS; go_simp⟩) hS ?_
  refine wpAnyH_take (i := 4) (v := (.int .i64 r)) rfl (by kernel_rfl) (by kernel_rfl) (by kernel_rfl) (fun _ _ _ h => h) (Or.inl ⟨by rfl, fun w hS => by obtain ⟨s0, s1, s2, s3⟩ := hS; go_simp⟩) hS ?_
  refine wpAnyH_take (i := 5) (v := (.pointer (some ⟨k, 0, none⟩))) rfl (by kernel_rfl) (by kernel_rfl) (by kernel_rfl) (fun _ _ _ h => h) (Or.inl ⟨by rfl, fun w hS => by obtain ⟨s0, s1, s2, s3⟩ := hS; go_simp⟩) hS ?_
  refine wpAnyH_take (i := 6) (v := (.pointer (some ⟨k, 0, none⟩))) rfl (by kernel_rfl) (by kernel_rfl) (by kernel_rfl) (fun _ _ _ h => h) (Or.inl ⟨by rfl, fun w hS => by obtain ⟨s0, s1, s2, s3⟩ := hS; go_simp⟩) hS ?_
  refine wpAnyH_take (i := 7) (v := (.pointer (some ⟨k, 2, none⟩))) rfl (by kernel_rfl) (by kernel_rfl) (by kernel_rfl) (fun _ _ _ h => h) (Or.inl ⟨by rfl, fun w hS => by obtain ⟨s0, s1, s2, s3⟩ := hS; go_simp⟩) hS ?_
  refine wpAnyH_take (i := 8) (v := (.slice (some ⟨g2, 0, none⟩) ls.length dc)) rfl (by kernel_rfl) (by kernel_rfl) (by kernel_rfl) (fun _ _ _ h => h) (Or.inl ⟨by rfl, fun w hS => by obtain ⟨s0, s1, s2, s3⟩ := hS; go_simp⟩) hS ?_
  refine wpAnyH_take (i := 9) (v := (.int .i64 r)) rfl (by kernel_rfl) (by kernel_rfl) (by kernel_rfl) (fun _ _ _ h => h) (Or.inl ⟨by rfl, fun w hS => by obtain ⟨s0, s1, s2, s3⟩ := hS; go_simp⟩) hS ?_
  refine wpAnyH_take (i := 10) (v := (.agg #[.string key, .string dat])) rfl (by kernel_rfl) (by kernel_rfl) (by kernel_rfl) (fun _ _ _ h => h) (Or.inl ⟨by rfl, fun w hS => by obtain ⟨s0, s1, s2, s3⟩ := hS; go_simp⟩) hS ?_
  refine wpAnyH_take (i := 11) (v := (.string lf)) rfl (by kernel_rfl) (by kernel_rfl) (by kernel_rfl) (fun _ _ _ h => h) (Or.inl ⟨by rfl, fun w hS => by obtain ⟨s0, s1, s2, s3⟩ := hS; go_simp⟩) hS ?_
  refine wpAnyH_take (i := 12) (v := (.pointer (some ⟨g1, r * 2, none⟩))) rfl (by kernel_rfl) (by kernel_rfl) (by kernel_rfl) (fun _ _ _ h => h) (Or.inl ⟨by rfl, fun w hS => by obtain ⟨s0, s1, s2, s3⟩ := hS; go_simp⟩) hS ?_
  refine wpAnyH_ready (rs := [13]) (by kernel_rfl) (by simp) ?_
  refine AllReadyH.cons rfl (fun K hK => ?_) AllReadyH.nil
  go_simp
  refine hK.out _ _ ⟨keepSet (keepSet hS.1 (by show g1 ≠ k; omega)) (by show g1 ≠ k; omega), keepSet (keepSet hS.2.1 (by show g1 ≠ k; omega)) (by show g1 ≠ k; omega), keepSet (keepSet hS.2.2.1 (by show g1 ≠ X; omega)) (by show g1 ≠ X; omega), keepSet (keepSet hS.2.2.2 (by show g1 ≠ X; omega)) (by show g1 ≠ X; omega)⟩ (fun hS => ?_)
  clear hK
  refine wpAnyH_take (i := 14) (v := (.pointer (some ⟨g2, r, none⟩))) rfl (by kernel_rfl) (by kernel_rfl) (by kernel_rfl) (fun _ _ _ h => h) (Or.inl ⟨by rfl, fun w hS => by obtain ⟨s0, s1, s2, s3⟩ := hS; go_simp⟩) hS ?_
  refine wpAnyH_ready (rs := [15]) (by kernel_rfl) (by simp) ?_
  refine AllReadyH.cons rfl (fun K hK => ?_) AllReadyH.nil
  go_simp
  refine hK.out _ _ ⟨keepSet hS.1 (by show g2 ≠ k; omega), keepSet hS.2.1 (by show g2 ≠ k; omega), keepSet hS.2.2.1 (by show g2 ≠ X; omega), keepSet hS.2.2.2 (by show g2 ≠ X; omega)⟩ (fun hS => ?_)
  clear hK
  refine wpAnyH_done (by kernel_rfl) ?_ _
  clear hS
  go_wp2
  go_ret
  obtain ⟨h1, h2⟩ := HZ.out
  exact ⟨rfl, r, _, _, HSP.out.1, h1.below (Below.refl _ _).drew, (C7.trans h2).trans (Tch.of_below (Below.refl _ _).drew), Or.inl rfl, Or.inl rfl⟩

theorem treePut_calls (key dat : ByteArray) (w : World) (h : Tre w B k p b x y T S l lv dv) (hl : l.length < 4096) (hT : T.length < 900000) (hb : rcBad ⟨key, dat⟩ = false) :
    Calls Tryz.prog 19 #[.pointer (some ⟨k, 0, none⟩), .string key, .string dat] w fun e w' => e = .returned (.int .i64 0) ∧ ∃ r lv' dv', Spot l key r ∧ Tre w' B k p b x y (note T (leafT ⟨key, dat⟩)) S (putL l r ⟨key, dat⟩) lv' dv' ∧ Tch k x y lv dv w w' ∧ Nx w lv lv' ∧ Nx w dv dv' := by
  by_cases hq : ∃ r, Spot l key r ∧ hasAt l r key = true
  · obtain ⟨r, h1, h2⟩ := hq
    exact treePut_old key dat w h hl hT hb (fun s hs => by rw [hs.same h1]; exact h2)
  · exact treePut_new key dat w h hl hT hb (fun s hs => by
      cases h2 : hasAt l s key
      · rfl
      · exact absurd ⟨s, hs, h2⟩ hq)
end Go.Proofs.YtpcafjbebhcilaaGreat
