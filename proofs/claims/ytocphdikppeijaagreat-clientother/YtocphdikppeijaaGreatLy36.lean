/- Reading paths and proofs. -/
import Derived.Test.YtocphdikppeijaaGreatLy35
import Derived.Test.YtocphdikppeijaaGreatLy18
import Derived.Deep.RegionLaw
namespace Go.Proofs.YtocphdikppeijaaGreat
open Go.RowKit
set_option linter.unusedVariables false
set_option linter.unusedSimpArgs false

def stCells (l : List ByteArray) : List Value := l.map Value.string
theorem infoString : (Tryz.prog.info? 9).map (fun i => (i.zero, i.size, i.bytes)) = some (some (.string ⟨#[]⟩), 1, 16) := by kernel_rfl

/-- What reading a path gives. -/
def ReadsPt (r : Except Int (Pt × Nat)) (b : Nat) (s : ByteArray) (w : World) (e : Ending) (w' : World) : Prop :=
  match r with
  | .ok (x, nx) => ∃ sv, e = .returned (x.val sv) ∧ w'.ownsRow w.heap.size 9 1 sv x.sides.length (stCells x.sides) ∧ Off b w w' ∧ Rdr w' b s nx
  | .error er => e = .panicked (gu er) ∧ Off b w w'

abbrev zPath : Obj := .cells #[.int .i64 0, .string ⟨#[]⟩, .string ⟨#[]⟩, .slice none 0 0] 111

theorem step_if {P : Program} {ops : Array Oper} {o : Oper} {a : Act} {w : World} {K : Act → World → Prop} {Q : Exit → Act → World → Prop} {E : Prop} (hg : o.guard = none) (h : Oper.wp P o a w K Q) :
    if Region.wanted o (yielded ops a.tmps) = true then Oper.wp P o a w K Q else E := by
  have hw : Region.wanted o (yielded ops a.tmps) = true := by simp [Region.wanted, hg]
  rw [if_pos hw]; exact h
theorem Blk.drew' {w : World} {k : Nat} {cs : Array Value} {t : TypeId} (h : Blk w k cs t) : Blk w.drew k cs t := h
theorem own_drew {w : World} {base n z : Nat} {t : TypeId} {v : Value} {xs : List Value} (h : w.ownsRow base t z v n xs) : w.drew.ownsRow base t z v n xs := own_below1 h (Below.refl _ _).drew

set_option maxRecDepth 100000 in
set_option maxHeartbeats 2000000 in
theorem path_calls (b : Nat) (s : ByteArray) (a : Nat) (w : World) (hr : Rdr w b s a) (hs : s.size ≤ maxLen) (ha : a ≤ s.size) :
    Calls Tryz.prog 96 #[.pointer (some ⟨b, 0, none⟩)] w (ReadsPt (rdPt s a) b s w) := by
  obtain ⟨i0, hi, hz0, hz1, hz2⟩ := info_parts infoString
  have hb := hr.lt
  have hr0 := (hr.alloc zPath).alloc zPath
  have hO0 := ((Off.refl b w).alloc zPath).alloc zPath
  have X0 := blk_new (w.alloc zPath) (w.heap.size + 1) #[.int .i64 0, .string ⟨#[]⟩, .string ⟨#[]⟩, .slice none 0 0] 111 (by simp)
  have Y0 := (blk_new w w.heap.size #[.int .i64 0, .string ⟨#[]⟩, .string ⟨#[]⟩, .slice none 0 0] 111 rfl).alloc zPath
  have hn := number_calls b s a _ hr0 hs ha
  go_enter Tryz.func96, Tryz.ntmps96
  go_wp2_with fail
  refine hn.mono ?_
  cases h1 : rdInt s a with
  | error er =>
    have hfin : Hid (rdPt s a = .error er) := by show _ = _; unfold rdPt; rw [h1]
    rintro e w1 ⟨rfl, ho⟩
    exact ⟨rfl, by unfold ReadsPt; rw [hfin.out]; exact ⟨rfl, hO0.trans ho⟩⟩
  | ok p1 =>
  obtain ⟨n, a1⟩ := p1
  have l1 := rdInt_le h1
  rintro e w1 ⟨rfl, ho1, hr1⟩
  have X1 := X0.off ho1 (by omega)
  have Y1 := Y0.off ho1 (by omega)
  have O1 := hO0.trans ho1
  have c0 := X1.cell (o := 0) rfl
  have f0 := X1.frozen (o := 0)
  obtain ⟨W1, hW1, X2, Y2, R2, O2⟩ : ∃ W1, (w1.setCell ⟨w.heap.size + 1, 0, none⟩ (.int .i64 n)) = W1 ∧ Blk W1 (w.heap.size + 1) #[.int .i64 n, .string ⟨#[]⟩, .string ⟨#[]⟩, .slice none 0 0] 111 ∧ Blk W1 w.heap.size #[.int .i64 0, .string ⟨#[]⟩, .string ⟨#[]⟩, .slice none 0 0] 111 ∧ Rdr W1 b s a1 ∧ Off b w W1 := by
    refine ⟨_, rfl, ?_, ?_, ?_, ?_⟩
    · have hx := X1.set 0 (.int .i64 n)
      simpa using hx
    · exact Y1.setOther (p := ⟨w.heap.size + 1, 0, none⟩) (by simp) _
    · exact hr1.setOther (p := ⟨w.heap.size + 1, 0, none⟩) (by simp; omega) _
    · exact Off.own O1 (p := ⟨w.heap.size + 1, 0, none⟩) (by simp) _
  have ht := text_calls b s a1 W1 R2 hs l1.2.1
  go_wp2_with fail
  refine ht.mono ?_
  clear hW1 c0 f0 X1 Y1 O1 ho1 hr1 X0 Y0 hO0 hr0 hn ht
  cases h2 : rdText s a1 with
  | error er =>
    have hfin : Hid (rdPt s a = .error er) := by show _ = _; unfold rdPt; rw [h1]; simp only [h2]
    rintro e w2 ⟨rfl, ho⟩
    exact ⟨rfl, by unfold ReadsPt; rw [hfin.out]; exact ⟨rfl, O2.trans ho⟩⟩
  | ok p2 =>
  obtain ⟨k, a2⟩ := p2
  have l2 := rdText_le h2
  rintro e w2 ⟨rfl, ho2, hr2⟩
  have X3 := X2.off ho2 (by omega)
  have Y3 := Y2.off ho2 (by omega)
  have O3 := O2.trans ho2
  have c1 := X3.cell (o := 1) rfl
  have f1 := X3.frozen (o := 1)
  obtain ⟨W2, hW2, X4, Y4, R4, O4⟩ : ∃ W2, (w2.setCell ⟨w.heap.size + 1, 1, none⟩ (.string k)) = W2 ∧ Blk W2 (w.heap.size + 1) #[.int .i64 n, .string k, .string ⟨#[]⟩, .slice none 0 0] 111 ∧ Blk W2 w.heap.size #[.int .i64 0, .string ⟨#[]⟩, .string ⟨#[]⟩, .slice none 0 0] 111 ∧ Rdr W2 b s a2 ∧ Off b w W2 := by
    refine ⟨_, rfl, ?_, ?_, ?_, ?_⟩
    · have hx := X3.set 1 (.string k)
      simpa using hx
    · exact Y3.setOther (p := ⟨w.heap.size + 1, 1, none⟩) (by simp) _
    · exact hr2.setOther (p := ⟨w.heap.size + 1, 1, none⟩) (by simp; omega) _
    · exact Off.own O3 (p := ⟨w.heap.size + 1, 1, none⟩) (by simp) _
  have ht := text_calls b s a2 W2 R4 hs l2.2.1
  go_wp2_with fail
  refine ht.mono ?_
  clear hW2 c1 f1 X3 Y3 O3 ho2 hr2 X2 Y2 O2 R2 ht
  cases h3 : rdText s a2 with
  | error er =>
    have hfin : Hid (rdPt s a = .error er) := by show _ = _; unfold rdPt; rw [h1]; simp only [h2, h3]
    rintro e w3 ⟨rfl, ho⟩
    exact ⟨rfl, by unfold ReadsPt; rw [hfin.out]; exact ⟨rfl, O4.trans ho⟩⟩
  | ok p3 =>
  obtain ⟨d, a3⟩ := p3
  have l3 := rdText_le h3
  rintro e w3 ⟨rfl, ho3, hr3⟩
  have X5 := X4.off ho3 (by omega)
  have Y5 := Y4.off ho3 (by omega)
  have O5 := O4.trans ho3
  have c2 := X5.cell (o := 2) rfl
  have f2 := X5.frozen (o := 2)
  obtain ⟨W3, hW3, X6, Y6, R6, O6⟩ : ∃ W3, (w3.setCell ⟨w.heap.size + 1, 2, none⟩ (.string d)) = W3 ∧ Blk W3 (w.heap.size + 1) #[.int .i64 n, .string k, .string d, .slice none 0 0] 111 ∧ Blk W3 w.heap.size #[.int .i64 0, .string ⟨#[]⟩, .string ⟨#[]⟩, .slice none 0 0] 111 ∧ Rdr W3 b s a3 ∧ Off b w W3 := by
    refine ⟨_, rfl, ?_, ?_, ?_, ?_⟩
    · have hx := X5.set 2 (.string d)
      simpa using hx
    · exact Y5.setOther (p := ⟨w.heap.size + 1, 2, none⟩) (by simp) _
    · exact hr3.setOther (p := ⟨w.heap.size + 1, 2, none⟩) (by simp; omega) _
    · exact Off.own O5 (p := ⟨w.heap.size + 1, 2, none⟩) (by simp) _
  have hc := count_calls b s a3 13 W3 R6 hs l3.2.1
  go_wp2_with fail
  refine hc.mono ?_
  clear hW3 c2 f2 X5 Y5 O5 ho3 hr3 X4 Y4 O4 R4 hc
  have hpt : Hid (rdPt s a = match rdSides s a3 with
      | .error e => .error e
      | .ok (l, a4) => .ok (⟨n, k, d, l⟩, a4)) := by show _ = _; unfold rdPt; rw [h1]; simp only [h2, h3]; rfl
  clear h1 h2 h3
  cases h4 : rdCount s a3 13 with
  | error er =>
    have hfin : Hid (rdPt s a = .error er) := by show _ = _; rw [hpt.out]; unfold rdSides rdCnt; rw [h4]
    rintro e w4 ⟨rfl, ho⟩
    exact ⟨rfl, by unfold ReadsPt; rw [hfin.out]; exact ⟨rfl, O6.trans ho⟩⟩
  | ok p4 =>
  obtain ⟨m, a4⟩ := p4
  have l4 := rdCount_le h4
  have hsd : Hid (rdSides s a3 = rdRep (rdText s) m a4 []) := by show _ = _; unfold rdSides rdCnt; rw [h4]
  clear h4
  rintro e w4 ⟨rfl, ho4, hr4⟩
  have X7 := X6.off ho4 (by omega)
  have Y7 := Y6.off ho4 (by omega)
  have O7 := O6.trans ho4
  clear X6 Y6 O6 R6 ho4
  go_wp2
  go_loopw [15] (fun i wr => ∃ (j a5 : Nat) (l : List ByteArray) (sv : Value), j ≤ m ∧ i = .int .i64 j ∧ l.length = j ∧ a5 ≤ s.size ∧ Hid (rdSides s a3 = rdRep (rdText s) (m - j) a5 l) ∧ wr.ownsRow (w.heap.size + 2) 9 1 sv j (stCells l) ∧ Blk wr (w.heap.size + 1) #[.int .i64 n, .string k, .string d, sv] 111 ∧ Blk wr w.heap.size #[.int .i64 0, .string ⟨#[]⟩, .string ⟨#[]⟩, .slice none 0 0] 111 ∧ Off b w wr ∧ Rdr wr b s a5) (fun i _ => m - (intOf i).toNat)
  case atStart => exact ⟨0, a4, [], .slice none 0 0, Nat.zero_le _, rfl, rfl, l4.2.1, hsd, World.ownsRow_nil _ _ _ _, X7, Y7, O7, hr4⟩
  case round =>
    obtain ⟨j, a5, l, sv, hj, rfl, hlj, ha5, hR, hown, X, Y, ho, hrr⟩ := hrel
    have hz := ho.size
    have hxl := X.lt
    clear hsd X7 Y7 O7 hr4
    by_cases hlt : j < m
    · have hd : decide ((j : Int) < m) = true := by simp only [decide_eq_true_eq]; omega
      have hstep : Hid (rdSides s a3 = rdRep (rdText s) (m - (j + 1) + 1) a5 l) := by show _ = _; rw [hR.out, show m - j = (m - (j + 1)) + 1 by omega]
      clear hR
      have ht := text_calls b s a5 wr.drew hrr.drew hs ha5
      have c3 := X.cell (o := 3) rfl
      have f3 := X.frozen (o := 3)
      cases h5 : rdText s a5 with
      | error er =>
        have hfin : Hid (rdPt s a = .error er) := by show _ = _; rw [hpt.out, hstep.out]; simp only [rdRep, h5]
        rw [h5] at ht
        clear h5 hstep
        go_wp2_with fail
        refine wp_region_any (by kernel_rfl) ?_
        change wpAny _ _ _ _ _ _ _ (World.drew _)
        refine wpAny_take (i := 0) (v := .pointer (some ⟨w.heap.size + 1, 3, none⟩)) rfl (by kernel_rfl) (by kernel_rfl) (by kernel_rfl) (fun _ _ _ h => h) (Or.inl ⟨by rfl, fun w => by go_simp⟩) ?_
        refine wpAny_take (i := 2) (v := .pointer (some ⟨b, 0, none⟩)) rfl (by kernel_rfl) (by kernel_rfl) (by kernel_rfl) (fun _ _ _ h => h) (Or.inl ⟨by rfl, fun w => by go_simp⟩) ?_
        refine wpAny_ready (rs := [1, 3]) (by kernel_rfl) (by simp) ?_
        refine AllReady.cons rfl (fun K hK => ?_) (AllReady.cons rfl (fun K hK => ?_) AllReady.nil)
        · go_simp
          refine hK _ _ ?_
          clear hK
          refine wpAny_ready (rs := [3]) (by kernel_rfl) (by simp) ?_
          refine AllReady.cons rfl (fun K hK => ?_) AllReady.nil
          go_simp
          refine ht.mono ?_
          rintro e w5 ⟨rfl, ho5⟩
          exact ⟨rfl, by unfold ReadsPt; rw [hfin.out]; exact ⟨rfl, ho.drew.trans ho5⟩⟩
        · go_simp
          refine ht.mono ?_
          rintro e w5 ⟨rfl, ho5⟩
          exact ⟨rfl, by unfold ReadsPt; rw [hfin.out]; exact ⟨rfl, ho.drew.trans ho5⟩⟩
      | ok q =>
        obtain ⟨t, a6⟩ := q
        have l5 := rdText_le h5
        have hfin2 : Hid (rdSides s a3 = rdRep (rdText s) (m - (j + 1)) a6 (l ++ [t])) := by show _ = _; rw [hstep.out]; simp only [rdRep, h5]
        rw [h5] at ht
        clear h5 hstep
        go_wp2_with fail
        refine wp_region_any (by kernel_rfl) ?_
        change wpAny _ _ _ _ _ _ _ (World.drew _)
        refine wpAny_take (i := 0) (v := .pointer (some ⟨w.heap.size + 1, 3, none⟩)) rfl (by kernel_rfl) (by kernel_rfl) (by kernel_rfl) (fun _ _ _ h => h) (Or.inl ⟨by rfl, fun w => by go_simp⟩) ?_
        refine wpAny_take (i := 2) (v := .pointer (some ⟨b, 0, none⟩)) rfl (by kernel_rfl) (by kernel_rfl) (by kernel_rfl) (fun _ _ _ h => h) (Or.inl ⟨by rfl, fun w => by go_simp⟩) ?_
        refine wpAny_ready (rs := [1, 3]) (by kernel_rfl) (by simp) ?_
        refine AllReady.cons rfl (fun K hK => ?_) (AllReady.cons rfl (fun K hK => ?_) AllReady.nil)
        · go_simp
          refine hK _ _ ?_
          clear hK
          refine wpAny_ready (rs := [3]) (by kernel_rfl) (by simp) ?_
          refine AllReady.cons rfl (fun K hK => ?_) AllReady.nil
          go_simp
          refine ht.mono ?_
          rintro e w5 ⟨rfl, ho5, hr5⟩
          refine hK _ _ ?_
          clear hK
          have X5 := X.drew'.off ho5 (by omega)
          have Y5 := Y.drew'.off ho5 (by omega)
          have O5 := ho.drew.trans ho5
          have hz5 := O5.size
          have hx5 := X5.lt
          have own5 : w5.ownsRow (w.heap.size + 2) 9 1 sv j (stCells l) := (own_drew hown).kept ho5.by (Or.inr (fun e => by have := (hown.lt b e).1; omega))
          have c5 := X5.cell (o := 3) rfl
          refine wpAny_ready (rs := [4]) (by kernel_rfl) (by simp) ?_
          refine AllReady.cons rfl (fun K hK => ?_) AllReady.nil
          go_simp
          refine hK _ _ ?_
          clear hK
          refine wpAny_ready (rs := [5]) (by kernel_rfl) (by simp) ?_
          refine AllReady.cons rfl (fun K hK => ?_) AllReady.nil
          refine step_if rfl ?_
          refine wp_append_own _ (.tmp 18) (.tmp 21) 109 rfl (w.heap.size + 2) 9 i0 (.string ⟨#[]⟩) 1 16 Tryz.underlying109 hi hz0 hz1 hz2 rfl (by decide) sv j (stCells l) rfl (own5.alloc _) ⟨w5.heap.size, 0, none⟩ 1 1 [.string t] rfl rfl ?_ ?_ ?_ ?_ ?_ ?_
          · intro j u hj
            rw [Addr.add_lit]
            refine (blk_new w5 w5.heap.size _ _ rfl).cell ?_
            simpa using hj
          · intro u hu
            simp at hu
            subst hu; rfl
          · unfold maxLen; omega
          · omega
          · simp; omega
          intro v' w6 hown' hgrow _
          obtain ⟨pv, cv, rfl⟩ := own_slice hown'
          refine hK _ _ ?_
          clear hK
          have X6 : Blk w6 (w.heap.size + 1) #[.int .i64 n, .string k, .string d, sv] 111 := (hgrow.block (w.heap.size + 1) (by simp; omega) (fun e => by have := (hown.lt _ e.symm).1; omega)).trans (X5.alloc _)
          have Y6 : Blk w6 w.heap.size #[.int .i64 0, .string ⟨#[]⟩, .string ⟨#[]⟩, .slice none 0 0] 111 := (hgrow.block w.heap.size (by simp; omega) (fun e => by have := (hown.lt _ e.symm).1; omega)).trans (Y5.alloc _)
          have R6 : Rdr w6 b s a6 := (hr5.alloc _).grown hgrow (fun e => by have := (hown.lt b e.symm).1; omega)
          have O6 : Off b w w6 := (O5.alloc _).grown hgrow (fun k hk => by have := (hown.lt k hk).1; omega)
          have c6 := X6.cell (o := 3) rfl
          have g6 := X6.frozen (o := 3)
          refine wpAny_ready (rs := [6]) (by kernel_rfl) (by simp) ?_
          refine AllReady.cons rfl (fun K hK => ?_) AllReady.nil
          go_simp
          refine hK _ _ ?_
          clear hK
          refine wpAny_ready (rs := [7]) (by kernel_rfl) (by simp) ?_
          refine AllReady.cons rfl (fun K hK => ?_) AllReady.nil
          go_simp
          refine hK _ _ ?_
          clear hK
          refine wpAny_done (by kernel_rfl) ?_ _
          go_wp2
          refine ⟨⟨j + 1, a6, l ++ [t], .slice pv (j + 1) cv, by omega, by go_num, by simp; omega, l5.2.1, hfin2, ?_, ?_, ?_, ?_, ?_⟩, by simp [intOf]; omega⟩
          · have e : stCells (l ++ [t]) = stCells l ++ [.string t] := by simp [stCells]
            rw [e]
            exact hown'.kept (grown_set _ ⟨w.heap.size + 1, 3, none⟩ _) (Or.inr (fun e => by have := (hown'.lt _ e).1; simp at this))
          · have hx := X6.set 3 (.slice pv (j + 1) cv)
            simpa using hx
          · exact Y6.setOther (p := ⟨w.heap.size + 1, 3, none⟩) (by simp) _
          · exact Off.own O6 (p := ⟨w.heap.size + 1, 3, none⟩) (by simp) _
          · exact R6.setOther (p := ⟨w.heap.size + 1, 3, none⟩) (by simp; omega) _
        · go_simp
          refine ht.mono ?_
          rintro e w5 ⟨rfl, ho5, hr5⟩
          refine hK _ _ ?_
          clear hK
          have X5 := X.drew'.off ho5 (by omega)
          have Y5 := Y.drew'.off ho5 (by omega)
          have O5 := ho.drew.trans ho5
          have hz5 := O5.size
          have hx5 := X5.lt
          have own5 : w5.ownsRow (w.heap.size + 2) 9 1 sv j (stCells l) := (own_drew hown).kept ho5.by (Or.inr (fun e => by have := (hown.lt b e).1; omega))
          have c5 := X5.cell (o := 3) rfl
          refine wpAny_ready (rs := [1, 4]) (by kernel_rfl) (by simp) ?_
          refine AllReady.cons rfl (fun K hK => ?_) (AllReady.cons rfl (fun K hK => ?_) AllReady.nil)
          · go_simp
            refine hK _ _ ?_
            clear hK
            refine wpAny_ready (rs := [4]) (by kernel_rfl) (by simp) ?_
            refine AllReady.cons rfl (fun K hK => ?_) AllReady.nil
            go_simp
            refine hK _ _ ?_
            clear hK
            refine wpAny_ready (rs := [5]) (by kernel_rfl) (by simp) ?_
            refine AllReady.cons rfl (fun K hK => ?_) AllReady.nil
            refine step_if rfl ?_
            refine wp_append_own _ (.tmp 18) (.tmp 21) 109 rfl (w.heap.size + 2) 9 i0 (.string ⟨#[]⟩) 1 16 Tryz.underlying109 hi hz0 hz1 hz2 rfl (by decide) sv j (stCells l) rfl (own5.alloc _) ⟨w5.heap.size, 0, none⟩ 1 1 [.string t] rfl rfl ?_ ?_ ?_ ?_ ?_ ?_
            · intro j u hj
              rw [Addr.add_lit]
              refine (blk_new w5 w5.heap.size _ _ rfl).cell ?_
              simpa using hj
            · intro u hu
              simp at hu
              subst hu; rfl
            · unfold maxLen; omega
            · omega
            · simp; omega
            intro v' w6 hown' hgrow _
            obtain ⟨pv, cv, rfl⟩ := own_slice hown'
            refine hK _ _ ?_
            clear hK
            have X6 : Blk w6 (w.heap.size + 1) #[.int .i64 n, .string k, .string d, sv] 111 := (hgrow.block (w.heap.size + 1) (by simp; omega) (fun e => by have := (hown.lt _ e.symm).1; omega)).trans (X5.alloc _)
            have Y6 : Blk w6 w.heap.size #[.int .i64 0, .string ⟨#[]⟩, .string ⟨#[]⟩, .slice none 0 0] 111 := (hgrow.block w.heap.size (by simp; omega) (fun e => by have := (hown.lt _ e.symm).1; omega)).trans (Y5.alloc _)
            have R6 : Rdr w6 b s a6 := (hr5.alloc _).grown hgrow (fun e => by have := (hown.lt b e.symm).1; omega)
            have O6 : Off b w w6 := (O5.alloc _).grown hgrow (fun k hk => by have := (hown.lt k hk).1; omega)
            have c6 := X6.cell (o := 3) rfl
            have g6 := X6.frozen (o := 3)
            refine wpAny_ready (rs := [6]) (by kernel_rfl) (by simp) ?_
            refine AllReady.cons rfl (fun K hK => ?_) AllReady.nil
            go_simp
            refine hK _ _ ?_
            clear hK
            refine wpAny_ready (rs := [7]) (by kernel_rfl) (by simp) ?_
            refine AllReady.cons rfl (fun K hK => ?_) AllReady.nil
            go_simp
            refine hK _ _ ?_
            clear hK
            refine wpAny_done (by kernel_rfl) ?_ _
            go_wp2
            refine ⟨⟨j + 1, a6, l ++ [t], .slice pv (j + 1) cv, by omega, by go_num, by simp; omega, l5.2.1, hfin2, ?_, ?_, ?_, ?_, ?_⟩, by simp [intOf]; omega⟩
            · have e : stCells (l ++ [t]) = stCells l ++ [.string t] := by simp [stCells]
              rw [e]
              exact hown'.kept (grown_set _ ⟨w.heap.size + 1, 3, none⟩ _) (Or.inr (fun e => by have := (hown'.lt _ e).1; simp at this))
            · have hx := X6.set 3 (.slice pv (j + 1) cv)
              simpa using hx
            · exact Y6.setOther (p := ⟨w.heap.size + 1, 3, none⟩) (by simp) _
            · exact Off.own O6 (p := ⟨w.heap.size + 1, 3, none⟩) (by simp) _
            · exact R6.setOther (p := ⟨w.heap.size + 1, 3, none⟩) (by simp; omega) _
          · go_simp
            refine hK _ _ ?_
            clear hK
            have c5' := (X5.alloc (.cells #[.string t] 9)).cell (o := 3) rfl
            refine wpAny_ready (rs := [1]) (by kernel_rfl) (by simp) ?_
            refine AllReady.cons rfl (fun K hK => ?_) AllReady.nil
            go_simp
            refine hK _ _ ?_
            clear hK
            refine wpAny_ready (rs := [5]) (by kernel_rfl) (by simp) ?_
            refine AllReady.cons rfl (fun K hK => ?_) AllReady.nil
            refine step_if rfl ?_
            refine wp_append_own _ (.tmp 18) (.tmp 21) 109 rfl (w.heap.size + 2) 9 i0 (.string ⟨#[]⟩) 1 16 Tryz.underlying109 hi hz0 hz1 hz2 rfl (by decide) sv j (stCells l) rfl (own5.alloc _) ⟨w5.heap.size, 0, none⟩ 1 1 [.string t] rfl rfl ?_ ?_ ?_ ?_ ?_ ?_
            · intro j u hj
              rw [Addr.add_lit]
              refine (blk_new w5 w5.heap.size _ _ rfl).cell ?_
              simpa using hj
            · intro u hu
              simp at hu
              subst hu; rfl
            · unfold maxLen; omega
            · omega
            · simp; omega
            intro v' w6 hown' hgrow _
            obtain ⟨pv, cv, rfl⟩ := own_slice hown'
            refine hK _ _ ?_
            clear hK
            have X6 : Blk w6 (w.heap.size + 1) #[.int .i64 n, .string k, .string d, sv] 111 := (hgrow.block (w.heap.size + 1) (by simp; omega) (fun e => by have := (hown.lt _ e.symm).1; omega)).trans (X5.alloc _)
            have Y6 : Blk w6 w.heap.size #[.int .i64 0, .string ⟨#[]⟩, .string ⟨#[]⟩, .slice none 0 0] 111 := (hgrow.block w.heap.size (by simp; omega) (fun e => by have := (hown.lt _ e.symm).1; omega)).trans (Y5.alloc _)
            have R6 : Rdr w6 b s a6 := (hr5.alloc _).grown hgrow (fun e => by have := (hown.lt b e.symm).1; omega)
            have O6 : Off b w w6 := (O5.alloc _).grown hgrow (fun k hk => by have := (hown.lt k hk).1; omega)
            have c6 := X6.cell (o := 3) rfl
            have g6 := X6.frozen (o := 3)
            refine wpAny_ready (rs := [6]) (by kernel_rfl) (by simp) ?_
            refine AllReady.cons rfl (fun K hK => ?_) AllReady.nil
            go_simp
            refine hK _ _ ?_
            clear hK
            refine wpAny_ready (rs := [7]) (by kernel_rfl) (by simp) ?_
            refine AllReady.cons rfl (fun K hK => ?_) AllReady.nil
            go_simp
            refine hK _ _ ?_
            clear hK
            refine wpAny_done (by kernel_rfl) ?_ _
            go_wp2
            refine ⟨⟨j + 1, a6, l ++ [t], .slice pv (j + 1) cv, by omega, by go_num, by simp; omega, l5.2.1, hfin2, ?_, ?_, ?_, ?_, ?_⟩, by simp [intOf]; omega⟩
            · have e : stCells (l ++ [t]) = stCells l ++ [.string t] := by simp [stCells]
              rw [e]
              exact hown'.kept (grown_set _ ⟨w.heap.size + 1, 3, none⟩ _) (Or.inr (fun e => by have := (hown'.lt _ e).1; simp at this))
            · have hx := X6.set 3 (.slice pv (j + 1) cv)
              simpa using hx
            · exact Y6.setOther (p := ⟨w.heap.size + 1, 3, none⟩) (by simp) _
            · exact Off.own O6 (p := ⟨w.heap.size + 1, 3, none⟩) (by simp) _
            · exact R6.setOther (p := ⟨w.heap.size + 1, 3, none⟩) (by simp; omega) _
    · have hd : decide ((j : Int) < m) = false := by simp only [decide_eq_false_iff_not]; omega
      have hfin : Hid (rdPt s a = .ok (⟨n, k, d, l⟩, a5)) := by
        show _ = _
        rw [hpt.out, hR.out, show m - j = 0 by omega]; rfl
      clear hR
      subst hlj
      obtain ⟨pv, cv, rfl⟩ := own_slice hown
      have x0 := X.cell (o := 0) rfl
      have x1 := X.cell (o := 1) rfl
      have x2 := X.cell (o := 2) rfl
      have x3 := X.cell (o := 3) rfl
      have y0 := Y.cell (o := 0) rfl
      have y1 := Y.cell (o := 1) rfl
      have y2 := Y.cell (o := 2) rfl
      have y3 := Y.cell (o := 3) rfl
      have q0 := Y.frozen (o := 0)
      have q1 := Y.frozen (o := 1)
      have q2 := Y.frozen (o := 2)
      have q3 := Y.frozen (o := 3)
      go_wp2
      obtain ⟨WE, hWE, YE, RE, OE, ownE⟩ : ∃ WE, ((((wr.setCell ⟨w.heap.size, 0, none⟩ (.int .i64 n)).setCell ⟨w.heap.size, 1, none⟩ (.string k)).setCell ⟨w.heap.size, 2, none⟩ (.string d)).setCell ⟨w.heap.size, 3, none⟩ (.slice pv l.length cv)) = WE ∧
          Blk WE w.heap.size #[.int .i64 n, .string k, .string d, .slice pv l.length cv] 111 ∧ Rdr WE b s a5 ∧ Off b w WE ∧ WE.ownsRow (w.heap.size + 2) 9 1 (.slice pv l.length cv) l.length (stCells l) := by
        refine ⟨_, rfl, ?_, ?_, ?_, ?_⟩
        · have hy := (((Y.set 0 (.int .i64 n)).set 1 (.string k)).set 2 (.string d)).set 3 (.slice pv l.length cv)
          simpa using hy
        · exact (((hrr.setOther (by simp; omega) _).setOther (by simp; omega) _).setOther (by simp; omega) _).setOther (by simp; omega) _
        · exact Off.own (Off.own (Off.own (Off.own ho (by simp) _) (by simp) _) (by simp) _) (by simp) _
        · exact ownsRow_setCell_below (ownsRow_setCell_below (ownsRow_setCell_below (ownsRow_setCell_below hown (by simp) _) (by simp) _) (by simp) _) (by simp) _
      rw [hWE]
      have z0 := YE.cell (o := 0) rfl
      have z1 := YE.cell (o := 1) rfl
      have z2 := YE.cell (o := 2) rfl
      have z3 := YE.cell (o := 3) rfl
      refine bodyPost_ret (v := Pt.val ⟨n, k, d, l⟩ (.slice pv l.length cv)) (by simp [results, Tryz.results96, go_sem, Pt.val, z0, z1, z2, z3]) rfl ?_
      unfold ReadsPt
      rw [hfin.out]
      exact ⟨_, rfl, ownsRow_weak ownE (by omega), OE, RE⟩
end Go.Proofs.YtocphdikppeijaaGreat
