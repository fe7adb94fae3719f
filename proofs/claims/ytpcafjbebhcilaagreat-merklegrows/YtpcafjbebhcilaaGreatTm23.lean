/- Is there a book? The records and their leaves; roots: the program's answers. -/
import Derived.Test.YtpcafjbebhcilaaGreatTm22
import Derived.Test.YtpcafjbebhcilaaGreatTm15
import Derived.Test.YtpcafjbebhcilaaGreatTm12
import Derived.Outline
namespace Go.Proofs.YtpcafjbebhcilaaGreat
open Go.RowKit
set_option linter.unusedSimpArgs false
set_option linter.unusedVariables false
variable {p b x y : Nat} {T : List ByteArray} {S : List (Int × ByteArray)}

def zB8 : Array Value := #[.int .i64 0, .int .i64 0, .int .i64 0, .int .i64 0, .int .i64 0, .string ⟨#[]⟩, .string ⟨#[]⟩, .slice none 0 0]
theorem openN_results {w' : World} {r : Nat} {v : Value} (X : Blk w' r zB8 98) {t : Array Value} (h1 : t.getD 4 undef = .pointer (some ⟨r, 0, none⟩)) (h2 : t.getD 5 undef = v) :
    (results Tryz.f50 t).run Tryz.prog w' = .ok (.tuple #[.agg zB8, v]) w' := by
  have a0 := X.cell (o := 0) rfl
  have a1 := X.cell (o := 1) rfl
  have a2 := X.cell (o := 2) rfl
  have a3 := X.cell (o := 3) rfl
  have a4 := X.cell (o := 4) rfl
  have a5 := X.cell (o := 5) rfl
  have a6 := X.cell (o := 6) rfl
  have a7 := X.cell (o := 7) rfl
  simp only [Array.getD_eq_getD_getElem?] at h1 h2
  simp [results, Tryz.results50, go_sem, h1, h2, a0, a1, a2, a3, a4, a5, a6, a7, zB8]
theorem infoB8 : (Tryz.prog.info? 98).map (·.size) = some zB8.size := by kernel_rfl

theorem zB8_one : zB8.all (·.oneCell') = true := by simp [zB8, Value.oneCell']
theorem zB8_same : zB8.size = zB8.size := rfl
set_option maxHeartbeats 1000000 in
set_option maxRecDepth 100000 in
theorem open_nobody (w : World) (h : Book w p b x y T S) (hS : S.length < 1000000) :
    Calls Tryz.prog 50 #[.pointer (some ⟨p, 0, none⟩), .agg #[.int .i64 (-1), .string ⟨#[]⟩, .string ⟨#[]⟩]] w fun e w' => e = .returned (.tuple #[.agg zB8, .int .i64 30]) ∧ Below w.heap.size w w' := by
  obtain ⟨W1, hW1, XM, XR, B1, Z1⟩ : ∃ W1, ((w.alloc (.cells #[.int .i64 (-1), .string ⟨#[]⟩, .string ⟨#[]⟩] 102)).alloc (.cells #[.int .i64 0, .int .i64 0, .int .i64 0, .int .i64 0, .int .i64 0, .string ⟨#[]⟩, .string ⟨#[]⟩, .slice none 0 0] 98)) = W1 ∧ Blk W1 w.heap.size #[.int .i64 (-1), .string ⟨#[]⟩, .string ⟨#[]⟩] 102 ∧ Blk W1 (w.heap.size + 1) zB8 98 ∧ Below w.heap.size w W1 ∧ W1.heap.size = w.heap.size + 2 :=
    ⟨_, rfl, (blk_new _ _ _ _ rfl).alloc _, blk_new _ _ _ _ (by simp), by go_grown, by simp⟩
  have h1 := h.below B1
  have hm := made_calls W1 h1
  have hc := bookCheck_calls (-1) ⟨#[]⟩ ⟨#[]⟩ W1 h1 hS
  have hk : chkB S (-1) ⟨#[]⟩ ⟨#[]⟩ = false := rfl
  rw [hk] at hc
  have e0 : W1.cell? ⟨w.heap.size, 0, none⟩ = some (.int .i64 (-1)) := XM.cell rfl
  have e1 : W1.cell? ⟨w.heap.size, 1, none⟩ = some (.string ⟨#[]⟩) := XM.cell rfl
  have e2 : W1.cell? ⟨w.heap.size, 2, none⟩ = some (.string ⟨#[]⟩) := XM.cell rfl
  go_enter Tryz.func50, Tryz.ntmps50
  go_wp2_with fail
  refine hm.mono ?_
  rintro e w1 ⟨rfl, rfl⟩
  go_wp2_with fail
  refine hc.mono ?_
  rintro e w2 ⟨rfl, hb2⟩
  have X2 := XR.below hb2
  obtain ⟨W3, hW3, X3, _⟩ := setRow_named X2 zB8
  go_wp2_with ((with_reducible refine st_row (ty := 98) X2 infoB8 zB8_same zB8_one hW3 ?_ ?_ ?_); rfl; rfl)
  refine bodyPost_ret (v := .tuple #[.agg zB8, .int .i64 30]) (openN_results X3 rfl rfl) rfl ?_
  exact ⟨rfl, below_row (B1.trans (hb2.mono (by omega))) hW3 (by omega)⟩

set_option maxHeartbeats 1000000 in
set_option maxRecDepth 100000 in
theorem isBook_calls (w : World) (h : Book w p b x y T S) (hS : S.length < 1000000) :
    Calls Tryz.prog 23 #[.pointer (some ⟨p, 0, none⟩)] w fun e w' => e = .returned (.bool true) ∧ Below w.heap.size w w' := by
  have HO : Hid _ := fun wx (hb : Below w.heap.size w wx) => open_nobody wx (h.below hb) hS
  go_enter Tryz.func23, Tryz.ntmps23
  go_wp2_with fail
  refine (HO.out _ (by go_grown)).mono ?_
  rintro e w2 ⟨rfl, hb2⟩
  obtain ⟨W3, hW3, X3, B3⟩ : ∃ W3, w2.alloc (.cells #[.int .i64 0, .int .i64 0, .int .i64 0, .int .i64 0, .int .i64 0, .string ⟨#[]⟩, .string ⟨#[]⟩, .slice none 0 0] 98) = W3 ∧ Blk W3 w2.heap.size zB8 98 ∧ Below w2.heap.size w2 W3 :=
    ⟨_, rfl, blk_new _ _ _ _ rfl, by go_grown⟩
  obtain ⟨W4, hW4, X4, _⟩ := setRow_named X3 zB8
  go_wp2_with ((with_reducible refine st_row (ty := 98) X3 infoB8 zB8_same zB8_one hW4 ?_ ?_ ?_); rfl; rfl)
  go_ret
  exact ⟨rfl, below_row (chain hb2 B3) hW4 hb2.size⟩

theorem riseF_ne4 : ∀ (l : List Rc) (last : ByteArray), riseF last l ≠ 4 := by
  intro l
  induction l with
  | nil => intro last h; cases h
  | cons m l ih =>
    intro last
    unfold riseF
    split
    · decide
    · split
      · exact ih _
      · decide
theorem riseR_ne4 (l : List Rc) : riseR l ≠ 4 := by
  unfold riseR
  split
  · decide
  · exact riseF_ne4 l _
set_option maxHeartbeats 1000000 in
set_option maxRecDepth 100000 in
theorem refuse_calls (v : Value) (l : List Rc) (w : World) (hr : Rcs w v l) (hl : l.length ≤ 9223372036854775807) (h : Book w p b x y T S) (hS : S.length < 1000000) :
    Calls Tryz.prog 58 #[.pointer (some ⟨p, 0, none⟩), v] w fun e w' => e = .returned (.int .i64 (riseR l)) ∧ Below w.heap.size w w' := by
  have HB : Hid _ := isBook_calls w h hS
  have HP : Hid _ := fun wx (hb : Below w.heap.size w wx) => putRecords_calls v l wx (hr.below hb) hl
  by_cases h0 : riseR l = 0
  · by_cases h1 : 1048576 < (rcsB l).length
    · have e : recsR l = #[.string ⟨#[]⟩, .int .i64 4] := by unfold recsR; rw [if_pos h0, if_pos h1]
      rw [e] at HP
      rw [h0]
      go_enter Tryz.func58, Tryz.ntmps58
      go_wp2_with fail
      refine Calls.mono HB.out ?_
      rintro e w1 ⟨rfl, b1⟩
      go_wp2_with fail
      refine (HP.out _ b1).mono ?_
      rintro e w2 ⟨rfl, b2⟩
      go_wp2
      go_ret
      exact ⟨rfl, chain b1 b2⟩
    · have e : recsR l = #[.string ⟨(rcsB l).toArray⟩, .int .i64 0] := by unfold recsR; rw [if_pos h0, if_neg h1]
      rw [e] at HP
      rw [h0]
      go_enter Tryz.func58, Tryz.ntmps58
      go_wp2_with fail
      refine Calls.mono HB.out ?_
      rintro e w1 ⟨rfl, b1⟩
      go_wp2_with fail
      refine (HP.out _ b1).mono ?_
      rintro e w2 ⟨rfl, b2⟩
      go_wp2
      go_ret
      exact ⟨rfl, chain b1 b2⟩
  · have e : recsR l = #[.string ⟨#[]⟩, .int .i64 (riseR l)] := by unfold recsR; rw [if_neg h0]
    have hn4 := riseR_ne4 l
    rw [e] at HP
    obtain ⟨E, hE⟩ : ∃ E, riseR l = E := ⟨_, rfl⟩
    rw [hE] at HP hn4 ⊢
    have d4 : decide (E = 4) = false := decide_eq_false hn4
    have d4' : (E == 4) = false := d4
    go_enter Tryz.func58, Tryz.ntmps58
    go_wp2_with fail
    refine Calls.mono HB.out ?_
    rintro e w1 ⟨rfl, b1⟩
    go_wp2_with fail
    refine (HP.out _ b1).mono ?_
    rintro e w2 ⟨rfl, b2⟩
    go_wp2
    go_ret
    exact ⟨rfl, chain b1 b2⟩

/-- A tree: its book, records and leaves. -/
structure Tr (w : World) (k p : Nat) (lv dv : Value) : Prop where
  blk : Blk w k #[.pointer (some ⟨p, 0, none⟩), lv, dv] 64

theorem Off.byM {k : Nat} {w w' : World} (h : Off k w w') : w.grownBy w' (some k) := ⟨h.os, h.tape, h.output, h.size, fun j hj hn => h.block j hj (fun e => hn (by rw [e]))⟩
theorem own_sliceM {w : World} {base n z : Nat} {t : TypeId} {v : Value} {xs : List Value} (h : w.ownsRow base t z v n xs) : ∃ p c, v = .slice p n c := by
  rcases h.2 with ⟨rfl, h3⟩ | ⟨g, cap, cur, rfl, _⟩
  · exact ⟨none, 0, by rw [h3]⟩
  · exact ⟨_, _, rfl⟩
theorem ownsRow_weakM {w : World} {base base2 n z : Nat} {t : TypeId} {v : Value} {xs : List Value} (h : w.ownsRow base t z v n xs) (hb : base2 ≤ base) : w.ownsRow base2 t z v n xs := by
  refine ⟨h.1, ?_⟩
  rcases h.2 with h2 | ⟨g, cap, cur, h1, h2, h3⟩
  · exact Or.inl h2
  · exact Or.inr ⟨g, cap, cur, h1, by omega, h3⟩
theorem own_setM {w : World} {base n z : Nat} {t : TypeId} {v : Value} {xs : List Value} (h : w.ownsRow base t z v n xs) {k o : Nat} (hk : k < base) {u : Value} : (w.setCell ⟨k, o, none⟩ u).ownsRow base t z v n xs :=
  h.kept (row := some k) (Off.setCell (Off.refl k w) (p := ⟨k, o, none⟩) rfl u).byM (by
    cases hv : v.ownBlock with
    | none => exact Or.inl rfl
    | some j => exact Or.inr (fun e => by have := (h.lt j hv).1; simp only [Option.some.injEq] at e; omega))
theorem Grew.set {T' : List ByteArray} {w w' : World} {c k o : Nat} (h : Grew x y p b T S w c T' w') (hk : w.heap.size ≤ k) (h1 : k ≠ p) (h2 : k ≠ b) (h3 : k ≠ x) (h4 : k ≠ y) {u : Value} : Grew x y p b T S w c T' (w'.setCell ⟨k, o, none⟩ u) :=
  ⟨h.ext, h.len, h.book.grown (row := some k) (Off.setCell (Off.refl k w') (p := ⟨k, o, none⟩) rfl u).byM ⟨by simpa using h1, by simpa using h2, by simpa using h3, by simpa using h4⟩, off2_grown h.off (row := some k) (Off.setCell (Off.refl k w') (p := ⟨k, o, none⟩) rfl u).byM (fun j hj => by simp only [Option.some.injEq] at hj; omega)⟩
set_option maxHeartbeats 4000000 in
set_option maxRecDepth 100000 in
theorem over_calls (v : Value) (l : List Rc) (w : World) (hr : Rcs w v l) (h : Book w p b x y T S) (hl : l.length ≤ 4096) (hT : T.length + l.length < 1000000) (hz : ∀ m ∈ l, m.key.size ≤ 64 ∧ m.dat.size ≤ 4096) :
    Calls Tryz.prog 59 #[.pointer (some ⟨p, 0, none⟩), v] w fun e w' => ∃ k dv ls T', e = .returned (.pointer (some ⟨k, 0, none⟩)) ∧ w.heap.size ≤ k ∧ Blk w' k #[.pointer (some ⟨p, 0, none⟩), v, dv] 64 ∧ w'.ownsRow w.heap.size 9 1 dv ls.length (txC ls) ∧ Lvs T' l ls ∧ Grew x y p b T S w l.length T' w' := by
  obtain ⟨i0, hi, hi0, hi1, hi2⟩ := info_parts infoStr
  have HRC : Hid _ := hr
  obtain ⟨a, cap, rfl⟩ := hr.len
  clear hr
  have hB1 : Below w.heap.size w (w.alloc (.cells #[.pointer (some ⟨p, 0, none⟩), .slice a l.length cap, .slice none 0 0] 64)) := by go_grown
  go_enter Tryz.func59, Tryz.ntmps59
  go_wp2_with fail
  go_loopw [14] (fun i wr => ∃ (k : Nat) (pv : Option Addr) (cv : Nat) (ls T' : List ByteArray), k ≤ l.length ∧ i = .int .i64 k ∧ Blk wr w.heap.size #[.pointer (some ⟨p, 0, none⟩), .slice a l.length cap, .slice pv k cv] 64 ∧ wr.ownsRow (w.heap.size + 1) 9 1 (.slice pv k cv) ls.length (txC ls) ∧ Lvs T' (l.take k) ls ∧ Grew x y p b T S w k T' wr ∧ w.heap.size + 1 ≤ wr.heap.size) (fun i _ => l.length - (intOf i).toNat)
  case atStart => exact ⟨0, none, 0, [], T, Nat.zero_le _, rfl, blk_new _ _ _ _ rfl, World.ownsRow_nil _ _ _ _, Lvs.nil T, (Grew.refl h).below hB1, by simp⟩
  case round =>
    obtain ⟨k, pv, cv, ls, T', hk, rfl, hX, ho, hlv, G, hz0⟩ := hrel
    by_cases hlt : k < l.length
    · have hd : decide ((k : Int) < (l.length : Int)) = true := by simp only [decide_eq_true_eq]; omega
      obtain ⟨g, off, rfl, hc0, hc1⟩ : ∃ g off, a = some ⟨g, off, none⟩ ∧ w.cell? ⟨g, off + k * 2, none⟩ = some (.string l[k].key) ∧ w.cell? ⟨g, off + k * 2 + 1, none⟩ = some (.string l[k].dat) := by
        rcases HRC.out with ⟨_, h0⟩ | ⟨g, off, c, e, hx⟩
        · rw [h0] at hlt; simp at hlt
        · simp only [Value.slice.injEq] at e
          exact ⟨g, off, e.1, (hx k hlt).1, (hx k hlt).2.1⟩
      have c0 := keepCell2 h G.off hc0
      have c1 := keepCell2 h G.off hc1
      have hzm := hz l[k] (List.getElem_mem hlt)
      have htk : l.take (k + 1) = l.take k ++ [l[k]] := List.take_succ_eq_append_getElem hlt
      have HT : Hid _ := htk
      clear htk
      generalize l[k] = m at *
      obtain ⟨W1, hW1, XR, XT, G1, o1, Z1⟩ : ∃ W1, (wr.alloc (.cells #[.string m.key, .string m.dat] 47)) = W1 ∧ Blk W1.drew wr.heap.size #[.string m.key, .string m.dat] 47 ∧ Blk W1.drew w.heap.size #[.pointer (some ⟨p, 0, none⟩), .slice (some ⟨g, off, none⟩) l.length cap, .slice pv k cv] 64 ∧ Grew x y p b T S w k T' W1.drew ∧ W1.drew.ownsRow (w.heap.size + 1) 9 1 (.slice pv k cv) ls.length (txC ls) ∧ W1.drew.heap.size = wr.heap.size + 1 :=
        ⟨_, rfl, blk_new _ _ _ _ rfl, hX.alloc _, G.below (((Below.refl _ _).alloc (Nat.le_refl _) _).drew), own_below ho (((Below.refl _ _).alloc (Nat.le_refl _) _).drew), by simp⟩
      have hlk : ls.length = k := by rw [hlv.len, List.length_take]; omega
      have hTx : w.heap.size ≠ x := by have := h.lts; omega
      have hTy : w.heap.size ≠ y := by have := h.lts; omega
      have c2 : W1.drew.cell? ⟨w.heap.size, 2, none⟩ = some (.slice pv k cv) := XT.cell rfl
      have r0 : W1.drew.cell? ⟨wr.heap.size, 0, none⟩ = some (.string m.key) := XR.cell rfl
      have r1 : W1.drew.cell? ⟨wr.heap.size, 1, none⟩ = some (.string m.dat) := XR.cell rfl
      have zT := G1.len
      go_wp2_with fail
      refine wp_region_any (by kernel_rfl) ?_
      change wpAny _ _ _ _ _ _ _ (World.drew _)
      refine wpAny_take (i := 0) (v := (.pointer (some ⟨w.heap.size, 0, none⟩))) rfl (by kernel_rfl) (by kernel_rfl) (by kernel_rfl) (fun _ _ _ h => h) (Or.inl ⟨by rfl, fun w => by go_simp⟩) ?_
      refine wpAny_take (i := 1) (v := (.pointer (some ⟨w.heap.size, 0, none⟩))) rfl (by kernel_rfl) (by kernel_rfl) (by kernel_rfl) (fun _ _ _ h => h) (Or.inl ⟨by rfl, fun w => by go_simp⟩) ?_
      refine wpAny_take (i := 2) (v := (.pointer (some ⟨w.heap.size, 0, none⟩))) rfl (by kernel_rfl) (by kernel_rfl) (by kernel_rfl) (fun _ _ _ h => h) (Or.inl ⟨by rfl, fun w => by go_simp⟩) ?_
      refine wpAny_take (i := 3) (v := (.pointer (some ⟨w.heap.size, 2, none⟩))) rfl (by kernel_rfl) (by kernel_rfl) (by kernel_rfl) (fun _ _ _ h => h) (Or.inl ⟨by rfl, fun w => by go_simp⟩) ?_
      refine wpAny_take (i := 5) (v := (.pointer (some ⟨p, 0, none⟩))) rfl (by kernel_rfl) (by kernel_rfl) (by kernel_rfl) (fun _ _ _ h => h) (Or.inl ⟨by rfl, fun w => by go_simp⟩) ?_
      refine wpAny_ready (rs := [4, 6]) (by kernel_rfl) (by simp) ?_
      refine AllReady.cons rfl (fun K hK => ?_) (AllReady.cons rfl (fun K hK => ?_) AllReady.nil)
      · go_simp
        refine hK _ _ ?_
        clear hK
        refine wpAny_ready (rs := [6]) (by kernel_rfl) (by simp) ?_
        refine AllReady.cons rfl (fun K hK => ?_) AllReady.nil
        go_simp
        refine hK _ _ ?_
        clear hK
        refine wpAny_ready (rs := [7]) (by kernel_rfl) (by simp) ?_
        refine AllReady.cons rfl (fun K hK => ?_) AllReady.nil
        go_simp
        refine (leafOf_calls m _ G1.book (by have := G1.len; omega) (by omega) (by omega)).mono ?_
        rintro e w3 A
        obtain rfl := A.ret
        refine hK _ _ ?_
        clear hK
        have G3 := G1.trans A.grew
        have XT3 : Blk w3 w.heap.size _ _ := XT.off2 A.off hTx hTy
        have c2 : w3.cell? ⟨w.heap.size, 2, none⟩ = some (.slice pv k cv) := XT3.cell rfl
        have o3 := own_off2 G1.book o1 A.off
        have zz3 := A.off.size
        refine wpAny_ready (rs := [8]) (by kernel_rfl) (by simp) ?_
        refine AllReady.cons rfl (fun K hK => ?_) AllReady.nil
        go_simp
        refine hK _ _ ?_
        clear hK
        have c2 : (w3.alloc (.cells #[.string (dig (note T' (leafT m)) (leafT m))] 9)).cell? ⟨w.heap.size, 2, none⟩ = some (.slice pv k cv) := (XT3.alloc _).cell rfl
        refine wpAny_ready (rs := [9]) (by kernel_rfl) (by simp) ?_
        refine AllReady.cons rfl (fun K hK => ?_) AllReady.nil
        refine step_ifM rfl ?_
        refine wp_append_own _ (.tmp 22) (.tmp 26) 62 rfl (w.heap.size + 1) 9 i0 (.string ⟨#[]⟩) 1 16 Tryz.underlying62 hi hi0 hi1 hi2 rfl (by decide) (.slice pv k cv) ls.length (txC ls) rfl (o3.alloc _) ⟨w3.heap.size, 0, none⟩ 1 1 [.string (dig (note T' (leafT m)) (leafT m))] rfl rfl ?_ ?_ ?_ ?_ ?_ ?_
        · exact cell_one_new _ _ _
        · intro u hu
          simp at hu
          subst hu; rfl
        · unfold maxLen; omega
        · omega
        · simp; omega
        intro v' w4 hown' hgrow _
        obtain ⟨pv', cv', rfl⟩ := own_sliceM hown'
        have G4 := (G3.below ((Below.refl w3.heap.size w3).alloc (Nat.le_refl _) (.cells #[.string (dig (note T' (leafT m)) (leafT m))] 9))).grown (o3.alloc _) (by decide) (by decide) (by omega) hgrow
        have XT4 : Blk w4 w.heap.size #[.pointer (some ⟨p, 0, none⟩), .slice (some ⟨g, off, none⟩) l.length cap, .slice pv k cv] 64 := (hgrow.block w.heap.size (by simp; omega) (fun e => by have := (o3.lt _ e.symm).1; omega)).trans (XT3.alloc _)
        have f4 : w4.frozen? ⟨w.heap.size, 2, none⟩ = false := XT4.frozen
        have c4 : w4.cell? ⟨w.heap.size, 2, none⟩ = some (.slice pv k cv) := XT4.cell rfl
        have hz4 := hgrow.size
        simp at hz4
        refine hK _ _ ?_
        clear hK
        refine wpAny_ready (rs := [10]) (by kernel_rfl) (by simp) ?_
        refine AllReady.cons rfl (fun K hK => ?_) AllReady.nil
        go_simp
        refine hK _ _ ?_
        clear hK
        refine wpAny_ready (rs := [11]) (by kernel_rfl) (by simp) ?_
        refine AllReady.cons rfl (fun K hK => ?_) AllReady.nil
        go_simp
        refine hK _ _ ?_
        clear hK
        refine wpAny_ready (rs := [12]) (by kernel_rfl) (by simp) ?_
        refine AllReady.cons rfl (fun K hK => ?_) AllReady.nil
        go_simp
        refine hK _ _ ?_
        clear hK
        refine wpAny_done (by kernel_rfl) ?_ _
        go_wp2
        refine ⟨⟨k + 1, pv', cv', ls ++ [dig (note T' (leafT m)) (leafT m)], note T' (leafT m), by omega, by norm_cast, ?_, ?_, ?_, ?_, ?_⟩, ?_⟩
        · exact XT4.set 2 _
        · rw [hlk] at hown'
          rw [txC_snoc, List.length_append, hlk]
          exact own_setM hown' (by omega)
        · rw [HT.out]; exact hlv.snoc (Ext.note _ _) m (mem_noted _ _)
        · have hlts := h.lts; exact G4.set (by omega) (fun e => by omega) (fun e => by omega) (fun e => by omega) (fun e => by omega)
        · simp [World.setCell]; omega
        · simp [intOf]; omega
      · go_simp
        refine hK _ _ ?_
        clear hK
        refine wpAny_ready (rs := [4, 7]) (by kernel_rfl) (by simp) ?_
        refine AllReady.cons rfl (fun K hK => ?_) (AllReady.cons rfl (fun K hK => ?_) AllReady.nil)
        · go_simp
          refine hK _ _ ?_
          clear hK
          refine wpAny_ready (rs := [7]) (by kernel_rfl) (by simp) ?_
          refine AllReady.cons rfl (fun K hK => ?_) AllReady.nil
          go_simp
          refine (leafOf_calls m _ G1.book (by have := G1.len; omega) (by omega) (by omega)).mono ?_
          rintro e w3 A
          obtain rfl := A.ret
          refine hK _ _ ?_
          clear hK
          have G3 := G1.trans A.grew
          have XT3 : Blk w3 w.heap.size _ _ := XT.off2 A.off hTx hTy
          have c2 : w3.cell? ⟨w.heap.size, 2, none⟩ = some (.slice pv k cv) := XT3.cell rfl
          have o3 := own_off2 G1.book o1 A.off
          have zz3 := A.off.size
          refine wpAny_ready (rs := [8]) (by kernel_rfl) (by simp) ?_
          refine AllReady.cons rfl (fun K hK => ?_) AllReady.nil
          go_simp
          refine hK _ _ ?_
          clear hK
          have c2 : (w3.alloc (.cells #[.string (dig (note T' (leafT m)) (leafT m))] 9)).cell? ⟨w.heap.size, 2, none⟩ = some (.slice pv k cv) := (XT3.alloc _).cell rfl
          refine wpAny_ready (rs := [9]) (by kernel_rfl) (by simp) ?_
          refine AllReady.cons rfl (fun K hK => ?_) AllReady.nil
          refine step_ifM rfl ?_
          refine wp_append_own _ (.tmp 22) (.tmp 26) 62 rfl (w.heap.size + 1) 9 i0 (.string ⟨#[]⟩) 1 16 Tryz.underlying62 hi hi0 hi1 hi2 rfl (by decide) (.slice pv k cv) ls.length (txC ls) rfl (o3.alloc _) ⟨w3.heap.size, 0, none⟩ 1 1 [.string (dig (note T' (leafT m)) (leafT m))] rfl rfl ?_ ?_ ?_ ?_ ?_ ?_
          · exact cell_one_new _ _ _
          · intro u hu
            simp at hu
            subst hu; rfl
          · unfold maxLen; omega
          · omega
          · simp; omega
          intro v' w4 hown' hgrow _
          obtain ⟨pv', cv', rfl⟩ := own_sliceM hown'
          have G4 := (G3.below ((Below.refl w3.heap.size w3).alloc (Nat.le_refl _) (.cells #[.string (dig (note T' (leafT m)) (leafT m))] 9))).grown (o3.alloc _) (by decide) (by decide) (by omega) hgrow
          have XT4 : Blk w4 w.heap.size #[.pointer (some ⟨p, 0, none⟩), .slice (some ⟨g, off, none⟩) l.length cap, .slice pv k cv] 64 := (hgrow.block w.heap.size (by simp; omega) (fun e => by have := (o3.lt _ e.symm).1; omega)).trans (XT3.alloc _)
          have f4 : w4.frozen? ⟨w.heap.size, 2, none⟩ = false := XT4.frozen
          have c4 : w4.cell? ⟨w.heap.size, 2, none⟩ = some (.slice pv k cv) := XT4.cell rfl
          have hz4 := hgrow.size
          simp at hz4
          refine hK _ _ ?_
          clear hK
          refine wpAny_ready (rs := [10]) (by kernel_rfl) (by simp) ?_
          refine AllReady.cons rfl (fun K hK => ?_) AllReady.nil
          go_simp
          refine hK _ _ ?_
          clear hK
          refine wpAny_ready (rs := [11]) (by kernel_rfl) (by simp) ?_
          refine AllReady.cons rfl (fun K hK => ?_) AllReady.nil
          go_simp
          refine hK _ _ ?_
          clear hK
          refine wpAny_ready (rs := [12]) (by kernel_rfl) (by simp) ?_
          refine AllReady.cons rfl (fun K hK => ?_) AllReady.nil
          go_simp
          refine hK _ _ ?_
          clear hK
          refine wpAny_done (by kernel_rfl) ?_ _
          go_wp2
          refine ⟨⟨k + 1, pv', cv', ls ++ [dig (note T' (leafT m)) (leafT m)], note T' (leafT m), by omega, by norm_cast, ?_, ?_, ?_, ?_, ?_⟩, ?_⟩
          · exact XT4.set 2 _
          · rw [hlk] at hown'
            rw [txC_snoc, List.length_append, hlk]
            exact own_setM hown' (by omega)
          · rw [HT.out]; exact hlv.snoc (Ext.note _ _) m (mem_noted _ _)
          · have hlts := h.lts; exact G4.set (by omega) (fun e => by omega) (fun e => by omega) (fun e => by omega) (fun e => by omega)
          · simp [World.setCell]; omega
          · simp [intOf]; omega
        · go_simp
          refine (leafOf_calls m _ G1.book (by have := G1.len; omega) (by omega) (by omega)).mono ?_
          rintro e w3 A
          obtain rfl := A.ret
          refine hK _ _ ?_
          clear hK
          have G3 := G1.trans A.grew
          have XT3 : Blk w3 w.heap.size _ _ := XT.off2 A.off hTx hTy
          have c2 : w3.cell? ⟨w.heap.size, 2, none⟩ = some (.slice pv k cv) := XT3.cell rfl
          have o3 := own_off2 G1.book o1 A.off
          have zz3 := A.off.size
          refine wpAny_ready (rs := [4, 8]) (by kernel_rfl) (by simp) ?_
          refine AllReady.cons rfl (fun K hK => ?_) (AllReady.cons rfl (fun K hK => ?_) AllReady.nil)
          · go_simp
            refine hK _ _ ?_
            clear hK
            refine wpAny_ready (rs := [8]) (by kernel_rfl) (by simp) ?_
            refine AllReady.cons rfl (fun K hK => ?_) AllReady.nil
            go_simp
            refine hK _ _ ?_
            clear hK
            have c2 : (w3.alloc (.cells #[.string (dig (note T' (leafT m)) (leafT m))] 9)).cell? ⟨w.heap.size, 2, none⟩ = some (.slice pv k cv) := (XT3.alloc _).cell rfl
            refine wpAny_ready (rs := [9]) (by kernel_rfl) (by simp) ?_
            refine AllReady.cons rfl (fun K hK => ?_) AllReady.nil
            refine step_ifM rfl ?_
            refine wp_append_own _ (.tmp 22) (.tmp 26) 62 rfl (w.heap.size + 1) 9 i0 (.string ⟨#[]⟩) 1 16 Tryz.underlying62 hi hi0 hi1 hi2 rfl (by decide) (.slice pv k cv) ls.length (txC ls) rfl (o3.alloc _) ⟨w3.heap.size, 0, none⟩ 1 1 [.string (dig (note T' (leafT m)) (leafT m))] rfl rfl ?_ ?_ ?_ ?_ ?_ ?_
            · exact cell_one_new _ _ _
            · intro u hu
              simp at hu
              subst hu; rfl
            · unfold maxLen; omega
            · omega
            · simp; omega
            intro v' w4 hown' hgrow _
            obtain ⟨pv', cv', rfl⟩ := own_sliceM hown'
            have G4 := (G3.below ((Below.refl w3.heap.size w3).alloc (Nat.le_refl _) (.cells #[.string (dig (note T' (leafT m)) (leafT m))] 9))).grown (o3.alloc _) (by decide) (by decide) (by omega) hgrow
            have XT4 : Blk w4 w.heap.size #[.pointer (some ⟨p, 0, none⟩), .slice (some ⟨g, off, none⟩) l.length cap, .slice pv k cv] 64 := (hgrow.block w.heap.size (by simp; omega) (fun e => by have := (o3.lt _ e.symm).1; omega)).trans (XT3.alloc _)
            have f4 : w4.frozen? ⟨w.heap.size, 2, none⟩ = false := XT4.frozen
            have c4 : w4.cell? ⟨w.heap.size, 2, none⟩ = some (.slice pv k cv) := XT4.cell rfl
            have hz4 := hgrow.size
            simp at hz4
            refine hK _ _ ?_
            clear hK
            refine wpAny_ready (rs := [10]) (by kernel_rfl) (by simp) ?_
            refine AllReady.cons rfl (fun K hK => ?_) AllReady.nil
            go_simp
            refine hK _ _ ?_
            clear hK
            refine wpAny_ready (rs := [11]) (by kernel_rfl) (by simp) ?_
            refine AllReady.cons rfl (fun K hK => ?_) AllReady.nil
            go_simp
            refine hK _ _ ?_
            clear hK
            refine wpAny_ready (rs := [12]) (by kernel_rfl) (by simp) ?_
            refine AllReady.cons rfl (fun K hK => ?_) AllReady.nil
            go_simp
            refine hK _ _ ?_
            clear hK
            refine wpAny_done (by kernel_rfl) ?_ _
            go_wp2
            refine ⟨⟨k + 1, pv', cv', ls ++ [dig (note T' (leafT m)) (leafT m)], note T' (leafT m), by omega, by norm_cast, ?_, ?_, ?_, ?_, ?_⟩, ?_⟩
            · exact XT4.set 2 _
            · rw [hlk] at hown'
              rw [txC_snoc, List.length_append, hlk]
              exact own_setM hown' (by omega)
            · rw [HT.out]; exact hlv.snoc (Ext.note _ _) m (mem_noted _ _)
            · have hlts := h.lts; exact G4.set (by omega) (fun e => by omega) (fun e => by omega) (fun e => by omega) (fun e => by omega)
            · simp [World.setCell]; omega
            · simp [intOf]; omega
          · go_simp
            refine hK _ _ ?_
            clear hK
            have c2 : (w3.alloc (.cells #[.string (dig (note T' (leafT m)) (leafT m))] 9)).cell? ⟨w.heap.size, 2, none⟩ = some (.slice pv k cv) := (XT3.alloc _).cell rfl
            refine wpAny_ready (rs := [4]) (by kernel_rfl) (by simp) ?_
            refine AllReady.cons rfl (fun K hK => ?_) AllReady.nil
            go_simp
            refine hK _ _ ?_
            clear hK
            refine wpAny_ready (rs := [9]) (by kernel_rfl) (by simp) ?_
            refine AllReady.cons rfl (fun K hK => ?_) AllReady.nil
            refine step_ifM rfl ?_
            refine wp_append_own _ (.tmp 22) (.tmp 26) 62 rfl (w.heap.size + 1) 9 i0 (.string ⟨#[]⟩) 1 16 Tryz.underlying62 hi hi0 hi1 hi2 rfl (by decide) (.slice pv k cv) ls.length (txC ls) rfl (o3.alloc _) ⟨w3.heap.size, 0, none⟩ 1 1 [.string (dig (note T' (leafT m)) (leafT m))] rfl rfl ?_ ?_ ?_ ?_ ?_ ?_
            · exact cell_one_new _ _ _
            · intro u hu
              simp at hu
              subst hu; rfl
            · unfold maxLen; omega
            · omega
            · simp; omega
            intro v' w4 hown' hgrow _
            obtain ⟨pv', cv', rfl⟩ := own_sliceM hown'
            have G4 := (G3.below ((Below.refl w3.heap.size w3).alloc (Nat.le_refl _) (.cells #[.string (dig (note T' (leafT m)) (leafT m))] 9))).grown (o3.alloc _) (by decide) (by decide) (by omega) hgrow
            have XT4 : Blk w4 w.heap.size #[.pointer (some ⟨p, 0, none⟩), .slice (some ⟨g, off, none⟩) l.length cap, .slice pv k cv] 64 := (hgrow.block w.heap.size (by simp; omega) (fun e => by have := (o3.lt _ e.symm).1; omega)).trans (XT3.alloc _)
            have f4 : w4.frozen? ⟨w.heap.size, 2, none⟩ = false := XT4.frozen
            have c4 : w4.cell? ⟨w.heap.size, 2, none⟩ = some (.slice pv k cv) := XT4.cell rfl
            have hz4 := hgrow.size
            simp at hz4
            refine hK _ _ ?_
            clear hK
            refine wpAny_ready (rs := [10]) (by kernel_rfl) (by simp) ?_
            refine AllReady.cons rfl (fun K hK => ?_) AllReady.nil
            go_simp
            refine hK _ _ ?_
            clear hK
            refine wpAny_ready (rs := [11]) (by kernel_rfl) (by simp) ?_
            refine AllReady.cons rfl (fun K hK => ?_) AllReady.nil
            go_simp
            refine hK _ _ ?_
            clear hK
            refine wpAny_ready (rs := [12]) (by kernel_rfl) (by simp) ?_
            refine AllReady.cons rfl (fun K hK => ?_) AllReady.nil
            go_simp
            refine hK _ _ ?_
            clear hK
            refine wpAny_done (by kernel_rfl) ?_ _
            go_wp2
            refine ⟨⟨k + 1, pv', cv', ls ++ [dig (note T' (leafT m)) (leafT m)], note T' (leafT m), by omega, by norm_cast, ?_, ?_, ?_, ?_, ?_⟩, ?_⟩
            · exact XT4.set 2 _
            · rw [hlk] at hown'
              rw [txC_snoc, List.length_append, hlk]
              exact own_setM hown' (by omega)
            · rw [HT.out]; exact hlv.snoc (Ext.note _ _) m (mem_noted _ _)
            · have hlts := h.lts; exact G4.set (by omega) (fun e => by omega) (fun e => by omega) (fun e => by omega) (fun e => by omega)
            · simp [World.setCell]; omega
            · simp [intOf]; omega
    · have hd : decide ((k : Int) < (l.length : Int)) = false := by simp only [decide_eq_false_iff_not]; omega
      obtain rfl : k = l.length := by omega
      go_wp2
      go_ret
      rw [List.take_length] at hlv
      exact ⟨w.heap.size, _, ls, T', rfl, Nat.le_refl _, hX, ownsRow_weakM ho (by omega), hlv, G⟩
end Go.Proofs.YtpcafjbebhcilaaGreat
