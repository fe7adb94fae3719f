/- A tree in memory: made, asked for its root, for a value, a key taken away. -/
import Derived.Test.YtpcafjbebhcilaaGreatTm41
import Derived.Test.YtpcafjbebhcilaaGreatTm40
namespace Go.Proofs.YtpcafjbebhcilaaGreat
open Go.RowKit
set_option linter.unusedSimpArgs false
set_option linter.unusedVariables false
variable {p b x y : Nat} {T : List ByteArray} {S : List (Int × ByteArray)}

structure Tre (w : World) (B k p b x y : Nat) (T : List ByteArray) (S : List (Int × ByteArray)) (l : List Rc) (lv dv : Value) : Prop where
  blk : Blk w k #[.pointer (some ⟨p, 0, none⟩), lv, dv] 64
  rows : w.ownsRow B 47 2 lv l.length (rcCells l)
  lvs : ∃ ls, w.ownsRow B 9 1 dv ls.length (txC ls) ∧ Lvs T l ls
  book : Book w p b x y T S
  rise : Rising l
  fit : ∀ m ∈ l, m.key.size ≤ 64 ∧ m.dat.size ≤ 4096
  kB : k < B
  BW : B ≤ w.heap.size
  away : k ≠ p ∧ k ≠ b ∧ k ≠ x ∧ k ≠ y
/-- What a call of a tree may change. -/
structure Tch (k x y : Nat) (lv dv : Value) (w w' : World) : Prop where
  os : w'.os = w.os
  tape : w'.tape = w.tape
  output : w'.output = w.output
  size : w.heap.size ≤ w'.heap.size
  block : ∀ j, j < w.heap.size → j ≠ k → j ≠ x → j ≠ y → some j ≠ lv.ownBlock → some j ≠ dv.ownBlock → w'.heap[j]? = w.heap[j]?
variable {B k : Nat} {lv dv : Value} {l : List Rc} {w w' w'' : World}

theorem Tch.refl : Tch k x y lv dv w w := ⟨rfl, rfl, rfl, Nat.le_refl _, fun _ _ _ _ _ _ _ => rfl⟩
theorem Tch.trans (h : Tch k x y lv dv w w') (h' : Tch k x y lv dv w' w'') : Tch k x y lv dv w w'' :=
  ⟨h'.os.trans h.os, h'.tape.trans h.tape, h'.output.trans h.output, Nat.le_trans h.size h'.size, fun j hj a b c d e => (h'.block j (Nat.lt_of_lt_of_le hj h.size) a b c d e).trans (h.block j hj a b c d e)⟩
theorem Tch.of_below (h : Below w.heap.size w w') : Tch k x y lv dv w w' := ⟨h.os, h.tape, h.output, h.size, fun j hj _ _ _ _ _ => h.block j hj⟩
theorem Tch.of_off2 (h : Off2 x y w w') : Tch k x y lv dv w w' := ⟨h.os, h.tape, h.output, h.size, fun j hj _ a b _ _ => h.block j hj a b⟩
theorem Tch.of_grown {row : Option Nat} (h : w.grownBy w' row) (hr : row = lv.ownBlock ∨ row = dv.ownBlock ∨ row = some k) : Tch k x y lv dv w w' :=
  ⟨h.os, h.tape, h.output, h.size, fun j hj a _ _ d e => h.block j hj (fun q => by
    rcases hr with hr | hr | hr
    · exact d (q.trans hr)
    · exact e (q.trans hr)
    · exact a (Option.some.inj (q.trans hr)))⟩
/-- Rows that went on from others. -/
def Nx (w : World) (v v' : Value) : Prop := v'.ownBlock = v.ownBlock ∨ ∀ g, v'.ownBlock = some g → w.heap.size ≤ g
theorem Tch.next {lv' dv' : Value} (h : Tch k x y lv dv w w') (h' : Tch k x y lv' dv' w' w'') (hl : Nx w lv lv') (hd : Nx w dv dv') : Tch k x y lv dv w w'' :=
  ⟨h'.os.trans h.os, h'.tape.trans h.tape, h'.output.trans h.output, Nat.le_trans h.size h'.size, fun j hj a b c d e => (h'.block j (Nat.lt_of_lt_of_le hj h.size) a b c
    (fun q => by rcases hl with q2 | q2
                 · exact d (q.trans q2)
                 · have := q2 j q.symm; omega)
    (fun q => by rcases hd with q2 | q2
                 · exact e (q.trans q2)
                 · have := q2 j q.symm; omega)).trans (h.block j hj a b c d e)⟩
theorem Nx.next {v v' v'' : Value} (h : Nx w v v') (h' : Nx w' v' v'') (hs : w.heap.size ≤ w'.heap.size) : Nx w v v'' := by
  rcases h' with q | q
  · rcases h with q2 | q2
    · exact Or.inl (q.trans q2)
    · exact Or.inr (fun g hg => q2 g (q.symm.trans hg))
  · exact Or.inr (fun g hg => Nat.le_trans hs (q g hg))
theorem Tch.low {w0 : World} (h : Tre w B k p b x y T S l lv dv) (c : Tch k x y lv dv w w') (hk : w0.heap.size ≤ k) (hx : w0.heap.size ≤ x) (hy : w0.heap.size ≤ y) (h0 : Below w0.heap.size w0 w) : Below w0.heap.size w0 w' := by
  obtain ⟨ls, o2, _⟩ := h.lvs
  have hk2 := h.kB
  refine h0.trans ⟨c.os, c.tape, c.output, c.size, fun j hj => c.block j (Nat.lt_of_lt_of_le hj h0.size) (by omega) (by omega) (by omega) (fun q => ?_) (fun q => ?_)⟩
  · have := (h.rows.lt j q.symm).1; omega
  · have := (o2.lt j q.symm).1; omega
theorem Tre.rcs (h : Tre w B k p b x y T S l lv dv) : Rcs w lv l := rcs_of_own h.rows (fun m hm => by have := h.fit m hm; unfold maxLen; omega)
theorem Tre.below (h : Tre w B k p b x y T S l lv dv) (hb : Below w.heap.size w w') : Tre w' B k p b x y T S l lv dv := by
  obtain ⟨ls, o2, hlv⟩ := h.lvs
  exact ⟨h.blk.below hb, own_below h.rows hb, ⟨ls, own_below o2 hb, hlv⟩, h.book.below hb, h.rise, h.fit, h.kB, Nat.le_trans h.BW hb.size, h.away⟩
theorem Tre.grew {T' : List ByteArray} {c : Nat} (h : Tre w B k p b x y T S l lv dv) (g : Grew x y p b T S w c T' w') : Tre w' B k p b x y T' S l lv dv := by
  obtain ⟨ls, o2, hlv⟩ := h.lvs
  exact ⟨h.blk.off2 g.off h.away.2.2.1 h.away.2.2.2, own_off2 h.book h.rows g.off, ⟨ls, own_off2 h.book o2 g.off, hlv.ext g.ext⟩, g.book, h.rise, h.fit, h.kB, Nat.le_trans h.BW g.off.size, h.away⟩

theorem madeT_calls (bv : Nat) (lv dv : Value) (w : World) (hX : Blk w k #[.pointer (some ⟨bv, 0, none⟩), lv, dv] 64) : Calls Tryz.prog 28 #[.pointer (some ⟨k, 0, none⟩)] w fun e w' => e = .returned (.bool true) ∧ w' = w := by
  have c0 : w.cell? ⟨k, 0, none⟩ = some (.pointer (some ⟨bv, 0, none⟩)) := hX.cell rfl
  go_enter Tryz.func28, Tryz.ntmps28
  go_wp2
  go_ret
  exact ⟨rfl, rfl⟩

set_option maxHeartbeats 1000000 in
set_option maxRecDepth 100000 in
theorem treeNew_calls (w : World) (h : Book w p b x y T S) (hS : S.length < 1000000) :
    Calls Tryz.prog 7 #[.pointer (some ⟨p, 0, none⟩)] w fun e w' => ∃ k, e = .returned (.pointer (some ⟨k, 0, none⟩)) ∧ w.heap.size ≤ k ∧ Tre w' (k + 1) k p b x y T S [] (.slice none 0 0) (.slice none 0 0) ∧ Below w.heap.size w w' := by
  have HB : Hid _ := isBook_calls w h hS
  have hlts := h.lts
  go_enter Tryz.func7, Tryz.ntmps7
  go_wp2_with fail
  refine Calls.mono HB.out ?_
  rintro e w1 ⟨rfl, b1⟩
  have h1 := h.below b1
  go_wp2
  go_ret
  have bb : Below w1.heap.size w1 (w1.alloc (.cells #[.pointer (some ⟨p, 0, none⟩), .slice none 0 0, .slice none 0 0] 64)) := by go_grown
  have zz := b1.size
  exact ⟨w1.heap.size, rfl, b1.size, ⟨blk_new _ _ _ _ rfl, World.ownsRow_nil _ _ _ _, ⟨[], World.ownsRow_nil _ _ _ _, Lvs.nil T⟩, h1.below bb, Rising.nil, fun m hm => (by cases hm), by omega, by simp, by omega, by omega, by omega, by omega⟩, chain b1 bb⟩

set_option maxHeartbeats 1000000 in
set_option maxRecDepth 100000 in
theorem treeRootM_calls (w : World) (h : Tre w B k p b x y T S l lv dv) (hl : l.length ≤ 4096) (hT : T.length < 900000) :
    Calls Tryz.prog 9 #[.pointer (some ⟨k, 0, none⟩)] w fun e w' => ∃ r T', e = .returned (.string r) ∧ RootOf T' l r ∧ Grew x y p b T S w (l.length + 1) T' w' := by
  have HM : Hid _ := madeT_calls p lv dv w h.blk
  obtain ⟨ls, o2, hlv⟩ := h.lvs
  have ll := hlv.len
  have HR : Hid _ := treeRoot_calls k lv dv ls w h.blk (lf_own o2) h.book (by omega) (by omega) hlv.small
  have HL : Hid _ := hlv
  clear h o2 hlv
  go_enter Tryz.func9, Tryz.ntmps9
  go_wp2_with fail
  refine Calls.mono HM.out ?_
  rintro e w1 ⟨rfl, rfl⟩
  go_wp2_with fail
  refine Calls.mono HR.out ?_
  rintro e w2 ⟨t, T', rfl, h1, h2, G⟩
  go_wp2
  go_ret
  rw [ll] at h2 G
  exact ⟨_, T', rfl, ⟨ls, t, Lvs.ext G.ext HL.out, h1, h2, rfl⟩, G⟩

def valAt (l : List Rc) (r : Nat) (key : ByteArray) : ByteArray := match l[r]? with | some m => if m.key = key then m.dat else ⟨#[]⟩ | none => ⟨#[]⟩
set_option maxHeartbeats 1000000 in
set_option maxRecDepth 100000 in
theorem treeGet_calls (key : ByteArray) (w : World) (h : Tre w B k p b x y T S l lv dv) (hl : l.length ≤ 4096) :
    Calls Tryz.prog 20 #[.pointer (some ⟨k, 0, none⟩), .string key] w fun e w' => ∃ r, Spot l key r ∧ e = .returned (.tuple #[.string (valAt l r key), .bool (hasAt l r key)]) ∧ Below w.heap.size w w' := by
  have HM : Hid _ := madeT_calls p lv dv w h.blk
  have HF : Hid _ := find_calls k lv dv _ l key w h.blk h.rcs hl h.rise
  have HX : Hid _ := h.blk
  have HR : Hid _ := h.rcs
  obtain ⟨a, cap, rfl⟩ := h.rcs.len
  clear h
  go_enter Tryz.func20, Tryz.ntmps20
  go_wp2_with fail
  refine Calls.mono HM.out ?_
  rintro e w1 ⟨rfl, rfl⟩
  go_wp2_with fail
  refine Calls.mono HF.out ?_
  rintro e w2 ⟨r, rfl, hsp, b2⟩
  cases hh : hasAt l r key
  · have hv : valAt l r key = ⟨#[]⟩ := by
      unfold valAt
      unfold hasAt at hh
      cases hq : l[r]? with
      | none => rfl
      | some m =>
        rw [hq] at hh
        simp only [decide_eq_false_iff_not] at hh
        simp only [if_neg hh]
    go_wp2
    go_ret2
    exact ⟨r, hsp, by rw [hv, hh]; rfl, b2⟩
  · obtain ⟨h1, h2⟩ := has_iff.1 hh
    have hv : valAt l r key = l[r].dat := by unfold valAt; rw [List.getElem?_eq_getElem h1]; simp only [if_pos h2]
    have c1 : w2.cell? ⟨k, 1, none⟩ = some (.slice a l.length cap) := keepCell b2 (Blk.cell HX.out rfl)
    have hrl : (r : Int) < (l.length : Int) := by omega
    obtain ⟨g, off, rfl, hc0⟩ : ∃ g off, a = some ⟨g, off, none⟩ ∧ w2.cell? ⟨g, off + r * 2 + 1, none⟩ = some (.string l[r].dat) := by
      rcases HR.out with ⟨_, h0⟩ | ⟨g, off, c, e, hx⟩
      · rw [h0] at h1; simp at h1
      · simp only [Value.slice.injEq] at e
        exact ⟨g, off, e.1, keepCell b2 (hx r h1).2.1⟩
    have HV : Hid _ := hv
    have HH : Hid _ := hh
    clear hv hh h2
    generalize l[r].dat = rd at *
    go_wp2
    go_ret2
    exact ⟨r, hsp, by rw [HV.out, HH.out]; rfl, b2⟩

set_option maxHeartbeats 2000000 in
set_option maxRecDepth 100000 in
theorem treeDrop_calls (key : ByteArray) (w : World) (h : Tre w B k p b x y T S l lv dv) (hl : l.length ≤ 4096) :
    Calls Tryz.prog 21 #[.pointer (some ⟨k, 0, none⟩), .string key] w fun e w' => ∃ r lv' dv', Spot l key r ∧ e = .returned (.bool (hasAt l r key)) ∧ Tre w' B k p b x y T S (dropL l r key) lv' dv' ∧ Tch k x y lv dv w w' ∧ Nx w lv lv' ∧ Nx w dv dv' := by
  have HM : Hid _ := madeT_calls p lv dv w h.blk
  have HF : Hid _ := find_calls k lv dv _ l key w h.blk h.rcs hl h.rise
  have HT : Hid _ := h
  clear h
  go_enter Tryz.func21, Tryz.ntmps21
  go_wp2_with fail
  refine Calls.mono HM.out ?_
  rintro e w1 ⟨rfl, rfl⟩
  go_wp2_with fail
  refine Calls.mono HF.out ?_
  rintro e w2 ⟨r, rfl, hsp, b2⟩
  cases hh : hasAt l r key
  · have hv : dropL l r key = l := by unfold dropL; rw [hh]; rfl
    go_wp2
    go_ret
    exact ⟨r, lv, dv, hsp, by rw [hh]; rfl, by rw [hv]; exact Tre.below HT.out b2, Tch.of_below b2, Or.inl rfl, Or.inl rfl⟩
  · obtain ⟨h1, h2⟩ := has_iff.1 hh
    have hv : dropL l r key = l.eraseIdx r := by unfold dropL; rw [hh]; rfl
    have h2T := Tre.below HT.out b2
    obtain ⟨ls, o2, hlv⟩ := h2T.lvs
    have o1 := h2T.rows
    have ll := hlv.len
    obtain ⟨m, hm⟩ : ∃ m, l.length = m + 1 := ⟨l.length - 1, by omega⟩
    rw [ll, hm] at o2
    rw [hm] at o1
    obtain ⟨g1, cap1, rfl, hg1, _⟩ := o1.form (by omega)
    obtain ⟨g2, cap2, rfl, hg2, _⟩ := o2.form (by omega)
    have hkB := h2T.kB
    have hgg : g1 ≠ g2 := fun q => by
      rcases own_twoM o1 o2 (by decide) with q2 | q2
      · cases q2
      · exact q2 (by rw [q]; rfl)
    have HD1 : Hid _ := delR_calls B g1 cap1 r m (rcCells l) w2 o1 (by omega) (by omega) (rcCells_one l)
    have hw1 : IntKind.i64.wrap ((r : Int) + 1) = (r : Int) + 1 := by rw [IntKind.wrap_i64]; omega
    have c1 : w2.cell? ⟨k, 1, none⟩ = some (.slice (some ⟨g1, 0, none⟩) (m + 1) cap1) := h2T.blk.cell rfl
    have HH : Hid _ := hh
    have HT2 : Hid _ := h2T
    have HL : Hid _ := hlv
    have HV : Hid _ := hv
    have HO1 : Hid _ := o1
    have HO2 : Hid _ := o2
    clear hh h2T hlv hv o1 o2 h2
    go_wp2_with fail
    refine Calls.mono HD1.out ?_
    rintro e w3 ⟨rfl, o13, of3⟩
    have X3 : Blk w3 k #[.pointer (some ⟨p, 0, none⟩), .slice (some ⟨g1, 0, none⟩) (m + 1) cap1, .slice (some ⟨g2, 0, none⟩) (m + 1) cap2] 64 := (Tre.blk HT2.out).off of3 (by omega)
    have f3 : w3.frozen? ⟨k, 1, none⟩ = false := X3.frozen
    have d3 : w3.cell? ⟨k, 1, none⟩ = some (.slice (some ⟨g1, 0, none⟩) (m + 1) cap1) := X3.cell rfl
    obtain ⟨W4, hW4, X4, o14, o24, of4⟩ : ∃ W4, w3.setCell ⟨k, 1, none⟩ (.slice (some ⟨g1, 0, none⟩) m cap1) = W4 ∧ Blk W4 k #[.pointer (some ⟨p, 0, none⟩), .slice (some ⟨g1, 0, none⟩) m cap1, .slice (some ⟨g2, 0, none⟩) (m + 1) cap2] 64 ∧ W4.ownsRow B 47 2 (.slice (some ⟨g1, 0, none⟩) m cap1) m ((rcCells l).take (r * 2) ++ (rcCells l).drop (r * 2 + 2)) ∧ W4.ownsRow B 9 1 (.slice (some ⟨g2, 0, none⟩) (m + 1) cap2) (m + 1) (txC ls) ∧ w2.grownBy w3 (some g1) ∧ w3.grownBy W4 (some k) :=
      ⟨_, rfl, X3.set 1 _, own_setM o13 hkB, own_setM (World.ownsRow.kept HO2.out of3.byM (Or.inr (fun q => hgg (Option.some.inj q).symm))) hkB, of3.byM, (Off.setCell (Off.refl k w3) (p := ⟨k, 1, none⟩) rfl _).byM⟩
    have HD2 : Hid _ := delT_calls B g2 cap2 r m (txC ls) W4 o24 (by omega) (by omega) (txC_one ls)
    have c2 : W4.cell? ⟨k, 2, none⟩ = some (.slice (some ⟨g2, 0, none⟩) (m + 1) cap2) := X4.cell rfl
    go_wp2_with fail
    refine Calls.mono HD2.out ?_
    rintro e w5 ⟨rfl, o25, of5⟩
    have X5 : Blk w5 k #[.pointer (some ⟨p, 0, none⟩), .slice (some ⟨g1, 0, none⟩) m cap1, .slice (some ⟨g2, 0, none⟩) (m + 1) cap2] 64 := X4.off of5 (by omega)
    have f5 : w5.frozen? ⟨k, 2, none⟩ = false := X5.frozen
    have d5 : w5.cell? ⟨k, 2, none⟩ = some (.slice (some ⟨g2, 0, none⟩) (m + 1) cap2) := X5.cell rfl
    have o15 := World.ownsRow.kept o14 of5.byM (Or.inr (fun q => hgg (Option.some.inj q)))
    go_wp2
    go_ret
    have of6 : w5.grownBy (w5.setCell ⟨k, 2, none⟩ (.slice (some ⟨g2, 0, none⟩) m cap2)) (some k) := (Off.setCell (Off.refl k w5) (p := ⟨k, 2, none⟩) rfl _).byM
    have h2T := HT2.out
    have ha1 := h2T.book.apart HO1.out (by decide) (by decide)
    have ha2 := h2T.book.apart HO2.out (by decide) (by decide)
    have hk := h2T.away
    have hB3 := h2T.book.grown of4.1 ha1
    have hB4 := hB3.grown of4.2 ⟨by simpa using hk.1, by simpa using hk.2.1, by simpa using hk.2.2.1, by simpa using hk.2.2.2⟩
    have hB5 := hB4.grown of5.byM ha2
    have hB6 := hB5.grown of6 ⟨by simpa using hk.1, by simpa using hk.2.1, by simpa using hk.2.2.1, by simpa using hk.2.2.2⟩
    have el : (l.eraseIdx r).length = m := by rw [List.length_eraseIdx_of_lt (by omega)]; omega
    refine ⟨r, _, _, hsp, by rw [HH.out]; rfl, ⟨X5.set 2 _, ?_, ⟨ls.take r ++ ls.drop (r + 1), ?_, ?_⟩, hB6, dropL_rising h2T.rise, fun q hq => h2T.fit q (dropL_mem hq), hkB, Nat.le_trans h2T.BW (Nat.le_trans of4.1.size (Nat.le_trans of4.2.size (Nat.le_trans of5.size of6.size))), hk⟩, ?_, Or.inl rfl, Or.inl rfl⟩
    · rw [HV.out, el, ← rcCells_del l r h1]
      exact own_setM o15 hkB
    · have e2 : (ls.take r ++ ls.drop (r + 1)).length = m := by rw [List.length_append, List.length_take, List.length_drop]; omega
      rw [e2]
      have e3 : txC (ls.take r ++ ls.drop (r + 1)) = (txC ls).take (r * 1) ++ (txC ls).drop (r * 1 + 1) := by unfold txC; rw [List.map_append, List.map_take, List.map_drop, Nat.mul_one]
      rw [e3]
      exact own_setM o25 hkB
    · rw [HV.out]; exact Lvs.del HL.out r
    · exact ((((Tch.of_below b2).trans (Tch.of_grown of4.1 (Or.inl rfl))).trans (Tch.of_grown of4.2 (Or.inr (Or.inr rfl)))).trans (Tch.of_grown of5.byM (Or.inr (Or.inl rfl)))).trans (Tch.of_grown of6 (Or.inr (Or.inr rfl)))
end Go.Proofs.YtpcafjbebhcilaaGreat
