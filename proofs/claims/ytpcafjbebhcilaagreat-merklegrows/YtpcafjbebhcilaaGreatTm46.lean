/- A call of a tree, and of the document's records beside it. -/
import Derived.Test.YtpcafjbebhcilaaGreatTm43
import Derived.Test.YtpcafjbebhcilaaGreatTm44
import Derived.Test.YtpcafjbebhcilaaGreatTm37
namespace Go.Proofs.YtpcafjbebhcilaaGreat
open Go.RowKit
set_option linter.unusedSimpArgs false
set_option linter.unusedVariables false
variable {p b x y : Nat} {T : List ByteArray} {S : List (Int × ByteArray)}
variable {B k : Nat} {lv dv : Value} {l : List Rc} {w w' w'' : World}

set_option maxRecDepth 100000 in
theorem aroundT_calls (n m : Int) (w : World) (h : 1 ≤ m) (hm : m ≤ 1000000) : Calls Tryz.prog 24 #[.int .i64 n, .int .i64 m] w fun e w' => (∃ k : Int, 0 ≤ k ∧ k < m ∧ e = .returned (.int .i64 k)) ∧ w' = w := by
  have g1 := Int.tmod_lt_of_pos n (show 0 < m by omega)
  have g2 := Int.lt_tmod_of_pos n (show 0 < m by omega)
  have hz : (m == 0) = false := by simp; omega
  generalize hk : n.tmod m = k at *
  have hw : IntKind.i64.wrap k = k := by rw [IntKind.wrap_i64]; omega
  by_cases h0 : k < 0
  · have hd : decide (k < 0) = true := decide_eq_true h0
    go_enter Tryz.func24, Tryz.ntmps24
    go_wp2
    go_ret
    exact ⟨⟨-k, by omega, by omega, by simp⟩, rfl⟩
  · have hd : decide (k < 0) = false := decide_eq_false h0
    go_enter Tryz.func24, Tryz.ntmps24
    go_wp2
    go_ret
    exact ⟨⟨k, by omega, by omega, rfl⟩, rfl⟩

def stepL (c : Int) (key dat : ByteArray) (l : List Rc) : List Rc := if c = 2 then dropL l (pos l key) key else if c = 3 then l else if rcBad ⟨key, dat⟩ = true then l else putL l (pos l key) ⟨key, dat⟩
theorem stepL_len (c : Int) (key dat : ByteArray) (l : List Rc) : (stepL c key dat l).length ≤ l.length + 1 := by
  unfold stepL
  split
  · have := dropL_len l (pos l key) key; omega
  · split
    · omega
    · split
      · omega
      · exact putL_len _ _ _
theorem rcBad_fit {key dat : ByteArray} (h : rcBad ⟨key, dat⟩ = false) : key.size ≤ 64 ∧ dat.size ≤ 4096 := by
  unfold rcBad at h
  simp only [Bool.or_eq_false_iff, decide_eq_false_iff_not] at h
  omega
theorem stepL_ok (c : Int) (key dat : ByteArray) {l : List Rc} (h : Rising l) (hz : ∀ m ∈ l, m.key.size ≤ 64 ∧ m.dat.size ≤ 4096) : Rising (stepL c key dat l) ∧ ∀ m ∈ stepL c key dat l, m.key.size ≤ 64 ∧ m.dat.size ≤ 4096 := by
  unfold stepL
  split
  · exact ⟨dropL_rising h, fun m hm => hz m (dropL_mem hm)⟩
  · split
    · exact ⟨h, hz⟩
    · split
      · exact ⟨h, hz⟩
      · rename_i hb
        refine ⟨putL_rising h (spot_ex h key), fun m hm => ?_⟩
        rcases putL_mem hm with rfl | hm
        · exact rcBad_fit (by simpa using hb)
        · exact hz m hm
/-- What a call of a tree leaves of rows of records beside it. -/
theorem Tch.rowR {D n : Nat} {v : Value} {xs : List Value} (h : Tre w B k p b x y T S l lv dv) (c : Tch k x y lv dv w w') (hv : w.ownsRow D 47 2 v n xs) (ap : v.ownBlock = none ∨ v.ownBlock ≠ lv.ownBlock) : w'.ownsRow D 47 2 v n xs := by
  have ha := h.book.apart hv (by decide) (by decide)
  obtain ⟨ls, od, _⟩ := h.lvs
  have h2 := own_twoM hv od (by decide)
  refine ⟨hv.1, ?_⟩
  rcases hv.2 with q | ⟨g, cap, cur, rfl, hb, hB, q⟩
  · exact Or.inl q
  · refine Or.inr ⟨g, cap, cur, rfl, hb, ?_, q⟩
    rw [c.block g (hv.lt g rfl).2 (fun e => ?_) (fun e => ha.2.2.1 (by rw [← e]; rfl)) (fun e => ha.2.2.2 (by rw [← e]; rfl)) (fun e => ?_) (fun e => ?_)]
    · exact hB
    · have := h.blk
      unfold Blk at this
      rw [e, this] at hB
      injection hB with hB
      injection hB with _ hB
      exact absurd hB (by decide)
    · rcases ap with ap | ap
      · cases ap
      · exact ap e
    · rcases h2 with h2 | h2
      · cases h2
      · exact h2 e
theorem Tch.cellN {W W' : World} (h : Tre w B k p b x y T S l lv dv) {a : Addr} {u : Value} (hs : w.heap.size ≤ a.block) (c : Tch k x y lv dv W W') (hc : W.cell? a = some u) : W'.cell? a = some u := by
  obtain ⟨ls, od, _⟩ := h.lvs
  have hl := h.book.lts
  have hk := h.kB
  have hB := h.BW
  refine (World.cell?_of_block (c.block a.block (World.block_lt_of_cell? W a hc) (by omega) (by omega) (by omega) (fun e => ?_) (fun e => ?_))).trans hc
  · have := (h.rows.lt _ e.symm).2; omega
  · have := (od.lt _ e.symm).2; omega
/-- What play answers: the tree and the document's records go on; the same ones stay the same. -/
def PlayP (B k p b x y : Nat) (T : List ByteArray) (S : List (Int × ByteArray)) (l d : List Rc) (lv dv : Value) (D : Nat) (key dat : ByteArray) (w : World) (e : Ending) (w' : World) : Prop :=
  ∃ (c : Int) (v' : Value) (ok : Bool) (lv' dv' : Value) (T' : List ByteArray), e = .returned (.tuple #[v', .bool ok]) ∧ Tre w' B k p b x y T' S (stepL c key dat l) lv' dv' ∧ Tch k x y lv dv w w' ∧ Nx w lv lv' ∧ Nx w dv dv' ∧ T'.length ≤ T.length + 1 ∧ Ext T T' ∧ w'.ownsRow D 47 2 v' (stepL c key dat d).length (rcCells (stepL c key dat d)) ∧ (v'.ownBlock = none ∨ v'.ownBlock ≠ lv'.ownBlock) ∧ (l = d → ok = true)

theorem nx_apart {D n : Nat} {v lv' : Value} {xs : List Value} (hv : w.ownsRow D 47 2 v n xs) (ap : v.ownBlock = none ∨ v.ownBlock ≠ lv.ownBlock) (hn : Nx w lv lv') : v.ownBlock = none ∨ v.ownBlock ≠ lv'.ownBlock := by
  rcases ap with ap | ap
  · exact Or.inl ap
  · rcases hn with hn | hn
    · exact Or.inr (by rw [hn]; exact ap)
    · cases hq : v.ownBlock with
      | none => exact Or.inl rfl
      | some g => exact Or.inr (fun e => by
          have h1 := (hv.lt g hq).2
          have h2 := hn g e.symm
          omega)
theorem hasAt_false {l : List Rc} {key : ByteArray} {r : Nat} (hri : Rising l) (hs : Spot l key r) (h : hasAt l r key = false) : ∀ m ∈ l, m.key ≠ key := by
  intro m hm e
  obtain ⟨c, hc, rfl⟩ := List.getElem_of_mem hm
  rcases Nat.lt_or_ge c r with hcr | hcr
  · exact lsB_ne (hs.lo c hc hcr) e
  · exact lsB_ne (hs.above hri h c hc hcr) e.symm
theorem truth_at {l : List Rc} {key : ByteArray} {r : Nat} (hri : Rising l) (hs : Spot l key r) : Truth l key (valAt l r key) (hasAt l r key) := by
  cases hh : hasAt l r key
  · refine Or.inl ⟨rfl, ?_, hasAt_false hri hs hh⟩
    unfold valAt
    unfold hasAt at hh
    cases hq : l[r]? with
    | none => rfl
    | some m =>
      rw [hq] at hh
      simp only [decide_eq_false_iff_not] at hh
      simp only [if_neg hh]
  · obtain ⟨h1, h2⟩ := has_iff.1 hh
    refine Or.inr ⟨rfl, l[r], List.getElem_mem h1, h2, ?_⟩
    unfold valAt
    rw [List.getElem?_eq_getElem h1]
    simp only [if_pos h2]

set_option maxHeartbeats 4000000 in
set_option maxRecDepth 100000 in
theorem truth_any (v : Value) (l : List Rc) (key val : ByteArray) (has : Bool) (w : World) (h : Rcs w v l) (hl : l.length ≤ 4096) :
    Calls Tryz.prog 27 #[v, .string key, .string val, .bool has] w fun e w' => ∃ ok, e = .returned (.bool ok) ∧ w' = w := by
  have HA : Hid _ := refAt_calls v l key w h hl
  obtain ⟨a, cap, rfl⟩ := h.len
  have HH : Hid _ := h
  clear h
  go_enter Tryz.func27, Tryz.ntmps27
  go_wp2_with fail
  refine Calls.mono HA.out ?_
  rintro e w1 ⟨rfl, ⟨rfl, hn⟩ | ⟨k, m, rfl, hm, hk⟩⟩
  · cases has
    · go_wp2
      go_ret
      exact ⟨_, rfl, rfl⟩
    · go_wp2
      go_ret
      exact ⟨_, rfl, rfl⟩
  · obtain ⟨hkl, hme⟩ := List.getElem?_eq_some_iff.1 hm
    obtain ⟨g, off, rfl, m1⟩ : ∃ g off, a = some ⟨g, off, none⟩ ∧ w1.cell? ⟨g, off + k * 2 + 1, none⟩ = some (.string m.dat) := by
      rcases HH.out with ⟨_, h0⟩ | ⟨g, off, c, e, hx⟩
      · rw [h0] at hkl; simp at hkl
      · simp only [Value.slice.injEq] at e
        have := (hx k hkl).2.1
        rw [hme] at this
        exact ⟨g, off, e.1, this⟩
    have d0 : decide ((k : Int) < 0) = false := decide_eq_false (by omega)
    have d1 : (k : Int) < (l.length : Int) := by omega
    clear hm hme HH
    cases has
    · go_wp2
      go_ret
      exact ⟨_, rfl, rfl⟩
    · go_wp2
      go_ret
      exact ⟨_, rfl, rfl⟩

theorem rcBad_is (key dat : ByteArray) : rcBad ⟨key, dat⟩ = (!isK key || decide (4096 < dat.size)) := by
  unfold rcBad isK
  by_cases h1 : key.size = 0
  · simp [h1]
  · by_cases h2 : 64 < key.size
    · have : ¬ key.size ≤ 64 := by omega
      simp [h2, this]
    · have h3 : key.size ≤ 64 := by omega
      have h4 : 1 ≤ key.size := by omega
      simp [h1, h2, h3, h4]
set_option maxHeartbeats 8000000 in
set_option maxRecDepth 100000 in
theorem play_calls (kd : Int) (key dat : ByteArray) (v : Value) (d : List Rc) (D : Nat) (w : World) (h : Tre w B k p b x y T S l lv dv) (hl : l.length < 4096) (hd : d.length < 4096) (hT : T.length < 900000) (hk : key.size ≤ maxLen) (hdz : dat.size ≤ maxLen) (hv : w.ownsRow D 47 2 v d.length (rcCells d)) (hD : D ≤ w.heap.size) (hri : Rising d) (hfd : ∀ m ∈ d, m.key.size ≤ 64 ∧ m.dat.size ≤ 4096) (ap : v.ownBlock = none ∨ v.ownBlock ≠ lv.ownBlock) :
    Calls Tryz.prog 8 #[.pointer (some ⟨k, 0, none⟩), v, .agg #[.int .i64 kd, .string key, .string dat]] w (PlayP B k p b x y T S l d lv dv D key dat w) := by
  have hA := fun (wx : World) => aroundT_calls kd 4 wx (by decide) (by decide)
  have HA : Hid _ := hA
  obtain ⟨W1, hW1, X1, B1⟩ : ∃ W1, w.alloc (.cells #[.int .i64 kd, .string key, .string dat] 31) = W1 ∧ Blk W1 w.heap.size #[.int .i64 kd, .string key, .string dat] 31 ∧ Below w.heap.size w W1 := ⟨_, rfl, blk_new _ _ _ _ rfl, by go_grown⟩
  have a0 : W1.cell? ⟨w.heap.size, 0, none⟩ = some (.int .i64 kd) := X1.cell rfl
  have a1 : W1.cell? ⟨w.heap.size, 1, none⟩ = some (.string key) := X1.cell rfl
  have a2 : W1.cell? ⟨w.heap.size, 2, none⟩ = some (.string dat) := X1.cell rfl
  have T1 := h.below B1
  have v1 := own_below hv B1
  have hfd' : ∀ m ∈ d, m.key.size ≤ maxLen ∧ m.dat.size ≤ maxLen := fun m hm => by have := hfd m hm; unfold maxLen; omega
  have HRC : Hid (∀ wx, wx.ownsRow D 47 2 v d.length (rcCells d) → Rcs wx v d) := fun wx o => rcs_of_own o hfd'
  obtain ⟨va, vc, hve⟩ := own_sliceM hv
  subst hve
  have HT0 : Hid _ := h
  have HT1 : Hid _ := T1
  have HV0 : Hid _ := hv
  have HV1 : Hid _ := v1
  have HAP : Hid _ := ap
  have HRI : Hid _ := And.intro hri hfd
  clear h T1 hv v1 ap hri hfd hA hfd'
  go_enter Tryz.func8, Tryz.ntmps8
  go_wp2_with fail
  refine Calls.mono (HA.out _) ?_
  rintro e w2 ⟨⟨c, hc0, hc4, rfl⟩, rfl⟩
  by_cases hc2 : c = 2
  · subst hc2
    go_wp2_with fail
    refine wp_region_held_drew (S := (fun wx => wx.cell? ⟨w.heap.size, 1, none⟩ = some (.string key))) (by kernel_rfl) a1 (fun hS => ?_)
    refine wpAnyH_take (i := 0) (v := (.slice va d.length vc)) rfl (by kernel_rfl) (by kernel_rfl) (by kernel_rfl) (fun _ _ _ h => h) (Or.inl ⟨by rfl, fun w hS => by have s0 := hS; go_simp⟩) hS ?_
    refine wpAnyH_take (i := 1) (v := (.pointer (some ⟨w.heap.size, 1, none⟩))) rfl (by kernel_rfl) (by kernel_rfl) (by kernel_rfl) (fun _ _ _ h => h) (Or.inl ⟨by rfl, fun w hS => by have s0 := hS; go_simp⟩) hS ?_
    refine wpAnyH_take (i := 2) (v := (.string key)) rfl (by kernel_rfl) (by kernel_rfl) (by kernel_rfl) (fun _ _ _ h => h) (Or.inl ⟨by rfl, fun w hS => by have s0 := hS; go_simp⟩) hS ?_
    refine wpAnyH_take (i := 4) (v := (.pointer (some ⟨k, 0, none⟩))) rfl (by kernel_rfl) (by kernel_rfl) (by kernel_rfl) (fun _ _ _ h => h) (Or.inl ⟨by rfl, fun w hS => by have s0 := hS; go_simp⟩) hS ?_
    refine wpAnyH_take (i := 5) (v := (.pointer (some ⟨w.heap.size, 1, none⟩))) rfl (by kernel_rfl) (by kernel_rfl) (by kernel_rfl) (fun _ _ _ h => h) (Or.inl ⟨by rfl, fun w hS => by have s0 := hS; go_simp⟩) hS ?_
    refine wpAnyH_take (i := 6) (v := (.string key)) rfl (by kernel_rfl) (by kernel_rfl) (by kernel_rfl) (fun _ _ _ h => h) (Or.inl ⟨by rfl, fun w hS => by have s0 := hS; go_simp⟩) hS ?_
    refine wpAnyH_take (i := 8) (v := (.slice va d.length vc)) rfl (by kernel_rfl) (by kernel_rfl) (by kernel_rfl) (fun _ _ _ h => h) (Or.inl ⟨by rfl, fun w hS => by have s0 := hS; go_simp⟩) hS ?_
    refine wpAnyH_take (i := 9) (v := (.pointer (some ⟨w.heap.size, 1, none⟩))) rfl (by kernel_rfl) (by kernel_rfl) (by kernel_rfl) (fun _ _ _ h => h) (Or.inl ⟨by rfl, fun w hS => by have s0 := hS; go_simp⟩) hS ?_
    refine wpAnyH_take (i := 10) (v := (.string key)) rfl (by kernel_rfl) (by kernel_rfl) (by kernel_rfl) (fun _ _ _ h => h) (Or.inl ⟨by rfl, fun w hS => by have s0 := hS; go_simp⟩) hS ?_
    refine wpAnyH_ready (rs := [3]) (by kernel_rfl) (by simp) ?_
    refine AllReadyH.cons rfl (fun K hK => ?_) AllReadyH.nil
    go_simp
    refine (refDrop_calls (.slice va d.length vc) d key _ (HRC.out _ (own_below HV1.out (Below.refl _ _).drew)) (by omega)).mono ?_
    rintro e w3 ⟨v3, rfl, o3, b3⟩
    have T3 := (Tre.below HT1.out (Below.refl _ _).drew).below b3
    have V3 := own_below (own_below HV1.out (Below.refl _ _).drew) b3
    refine hK.out _ _ (keepCell b3 hS) (fun hS => ?_)
    clear hK
    refine wpAnyH_ready (rs := [7]) (by kernel_rfl) (by simp) ?_
    refine AllReadyH.cons rfl (fun K hK => ?_) AllReadyH.nil
    go_simp
    refine (treeDrop_calls key w3 T3 (by omega)).mono ?_
    rintro e w4 ⟨r, lv', dv', hsp, rfl, T4, C4, N4, M4⟩
    refine hK.out _ _ (Tch.cellN HT0.out (Nat.le_refl _) C4 hS) (fun hS => ?_)
    clear hK
    refine wpAnyH_ready (rs := [11]) (by kernel_rfl) (by simp) ?_
    refine AllReadyH.cons rfl (fun K hK => ?_) AllReadyH.nil
    go_simp
    refine (refAt_calls (.slice va d.length vc) d key w4 (HRC.out _ (Tch.rowR T3 C4 V3 HAP.out)) (by omega)).mono ?_
    rintro e w5 ⟨rfl, hat⟩
    obtain ⟨q, rfl, hq⟩ : ∃ q : Int, e = .returned (.int .i64 q) ∧ (l = d → (hasAt l r key == decide (0 ≤ q)) = true) := by
      rcases hat with ⟨rfl, hn⟩ | ⟨i, m, rfl, hm, hk⟩
      · refine ⟨-1, rfl, fun e => ?_⟩
        cases hh : hasAt l r key
        · decide
        · obtain ⟨h1, h2⟩ := has_iff.1 hh
          subst e
          exact absurd h2 (hn _ (List.getElem_mem h1))
      · refine ⟨i, rfl, fun e => ?_⟩
        subst e
        have : hasAt l r key = true := by
          cases hh : hasAt l r key
          · exact absurd hk (hasAt_false T3.rise hsp hh m (List.mem_of_getElem? hm))
          · rfl
        rw [this, decide_eq_true (by omega)]
        rfl
    clear hat
    refine hK.out _ _ hS (fun hS => ?_)
    clear hK
    refine wpAnyH_take (i := 12) (v := (.bool (decide (0 ≤ q)))) rfl (by kernel_rfl) (by kernel_rfl) (by kernel_rfl) (fun _ _ _ h => h) (Or.inl ⟨by rfl, fun w hS => by have s0 := hS; go_simp⟩) hS ?_
    refine wpAnyH_take (i := 13) (v := (.bool (hasAt l r key == decide (0 ≤ q)))) rfl (by kernel_rfl) (by kernel_rfl) (by kernel_rfl) (fun _ _ _ h => h) (Or.inl ⟨by rfl, fun w hS => by have s0 := hS; go_simp⟩) hS ?_
    refine wpAnyH_ready (rs := [14]) (by kernel_rfl) (by simp) ?_
    refine AllReadyH.cons rfl (fun K hK => ?_) AllReadyH.nil
    go_simp
    refine hK.out _ _ hS (fun hS => ?_)
    clear hK
    refine wpAnyH_ready (rs := [15]) (by kernel_rfl) (by simp) ?_
    refine AllReadyH.cons rfl (fun K hK => ?_) AllReadyH.nil
    go_simp
    refine hK.out _ _ hS (fun hS => ?_)
    clear hK
    refine wpAnyH_done (by kernel_rfl) ?_ _
    have HQ : Hid _ := hq
    clear hS hq
    go_wp2
    go_ret2
    have hp := hsp.pos
    have z3 := b3.size
    have z1 := B1.size
    have N4' : Nx w lv lv' := N4.far (by have : w2.heap.size ≤ w3.heap.size := z3; omega)
    refine ⟨2, v3, _, lv', dv', T, rfl, ?_, ((Tch.of_below (chain B1 (chain (Below.refl _ _).drew b3)))).trans C4, N4', M4.far (by have : w2.heap.size ≤ w3.heap.size := z3; omega), by omega, Ext.refl T, ?_, ?_, HQ.out⟩
    · have e : stepL 2 key dat l = dropL l r key := by unfold stepL; rw [if_pos rfl, ← hp]
      rw [e]; exact T4
    · have e : stepL 2 key dat d = d.filter (fun q => !decide (q.key = key)) := by unfold stepL; rw [if_pos rfl, filter_drop HRI.out.1]
      rw [e]
      refine ownsRow_weakM (Tch.rowR T3 C4 o3 ?_) (by have : w.heap.size ≤ w2.heap.size := z1; show D ≤ w2.heap.size; omega)
      · cases hq : v3.ownBlock with
        | none => exact Or.inl rfl
        | some g => exact Or.inr (fun e => by
            have h1 := (o3.lt g hq).1
            have h2 := ((Tre.rows HT0.out).lt g e.symm).2
            have : w.heap.size ≤ g := Nat.le_trans z1 h1
            omega)
    · refine nx_apart o3 ?_ N4
      cases hq : v3.ownBlock with
      | none => exact Or.inl rfl
      | some g => exact Or.inr (fun e => by
          have h1 := (o3.lt g hq).1
          have h2 := ((Tre.rows HT0.out).lt g e.symm).2
          have : w.heap.size ≤ g := Nat.le_trans z1 h1
          omega)
  · have dc2 : (c == 2) = false := by simpa using hc2
    by_cases hc3 : c = 3
    · subst hc3
      go_wp2_with fail
      refine Calls.mono (treeGet_calls key _ HT1.out (by omega)) ?_
      rintro e w3 ⟨r, hsp, rfl, b3⟩
      have T3 := Tre.below HT1.out b3
      have V3 := own_below HV1.out b3
      have a1 := keepCell b3 a1
      have HTR : Hid (Calls Tryz.prog 27 #[.slice va d.length vc, .string key, .string (valAt l r key), .bool (hasAt l r key)] w3 fun e w' => ∃ ok, e = .returned (.bool ok) ∧ w' = w3 ∧ (l = d → ok = true)) := by
        show Calls _ _ _ _ _
        by_cases e : l = d
        · refine (truth_calls _ d key (valAt l r key) (hasAt l r key) w3 (HRC.out _ V3) (by omega) HRI.out.1 (by rw [← e]; exact truth_at T3.rise hsp)).mono ?_
          rintro e w4 ⟨rfl, rfl⟩
          exact ⟨true, rfl, rfl, fun _ => rfl⟩
        · refine (truth_any _ d key (valAt l r key) (hasAt l r key) w3 (HRC.out _ V3) (by omega)).mono ?_
          rintro e2 w4 ⟨ok, rfl, rfl⟩
          exact ⟨ok, rfl, rfl, fun h => absurd h e⟩
      generalize valAt l r key = va1 at *
      generalize hasAt l r key = ha1 at *
      go_wp2_with fail
      refine Calls.mono HTR.out ?_
      rintro e w4 ⟨ok, rfl, rfl, hok⟩
      have HQ : Hid _ := hok
      clear hok
      go_wp2
      go_ret2
      exact ⟨3, _, ok, lv, dv, T, rfl, T3, Tch.of_below (chain B1 b3), Or.inl rfl, Or.inl rfl, by omega, Ext.refl T, V3, HAP.out, HQ.out⟩
    · have dc3 : (c == 3) = false := by simpa using hc3
      cases hb : rcBad ⟨key, dat⟩
      · obtain ⟨hkz, hdz2⟩ := rcBad_fit hb
        have hisk : isK key = true ∧ decide (4096 < dat.size) = false := by
          have := rcBad_is key dat
          rw [hb] at this
          simpa using this.symm
        have hd4 : decide ((4096 : Int) < (dat.size : Int)) = false := decide_eq_false (by omega)
        have HF : Hid _ := fun (wx : World) => refFits_calls key wx
        rw [hisk.1] at HF
        clear hisk
        go_wp2_with fail
        refine Calls.mono (treePut_calls key dat _ HT1.out hl hT hb) ?_
        rintro e w3 ⟨rfl, r, lv', dv', hsp, T3, C3, N3, M3⟩
        have V3 := Tch.rowR HT1.out C3 HV1.out HAP.out
        have a1 := Tch.cellN HT0.out (Nat.le_refl _) C3 a1
        have a2 := Tch.cellN HT0.out (Nat.le_refl _) C3 a2
        go_wp2_with fail
        refine (HF.out _).mono ?_
        rintro e w4 ⟨rfl, rfl⟩
        have HP : Hid _ := refPut_calls (.slice va d.length vc) d key dat w4 (HRC.out _ V3) (by omega)
        go_wp2_with fail
        refine Calls.mono HP.out ?_
        rintro e w5 ⟨v5, rfl, o5, b5⟩
        go_wp2
        go_ret2
        have hp := hsp.pos
        have z1 := B1.size
        have z3 := C3.size
        refine ⟨c, v5, true, lv', dv', note T (leafT ⟨key, dat⟩), rfl, ?_, ((Tch.of_below B1).trans C3).trans (Tch.of_below b5), N3.far z1, M3.far z1, note_len _ _, Ext.note _ _, ?_, ?_, fun _ => rfl⟩
        · have e : stepL c key dat l = putL l r ⟨key, dat⟩ := by unfold stepL; rw [if_neg hc2, if_neg hc3, hb, ← hp]; rfl
          rw [e]; exact T3.below b5
        · have e : stepL c key dat d = goP ⟨key, dat⟩ false d := by unfold stepL; rw [if_neg hc2, if_neg hc3, hb, goP_put HRI.out.1]; rfl
          rw [e]
          exact ownsRow_weakM o5 (by omega)
        · cases hq : v5.ownBlock with
          | none => exact Or.inl rfl
          | some g => exact Or.inr (fun e => by
              have h1 := (o5.lt g hq).1
              have h2 := (T3.rows.lt g e.symm).2
              omega)
      · have HF : Hid _ := fun (wx : World) => refFits_calls key wx
        have hbi := rcBad_is key dat
        rw [hb] at hbi
        have HB : Hid _ := hb
        have HBI : Hid _ := hbi
        clear hbi
        go_wp2_with fail
        refine Calls.mono (treePut_bad key dat _ HT1.out hk hdz hb) ?_
        rintro e w3 ⟨rfl, b3⟩
        have T3 := Tre.below HT1.out b3
        have V3 := own_below HV1.out b3
        have a1 := keepCell b3 a1
        have a2 := keepCell b3 a2
        clear hb
        cases hik : isK key
        · rw [hik] at HF
          go_wp2_with fail
          refine (HF.out _).mono ?_
          rintro e w4 ⟨rfl, rfl⟩
          go_wp2
          go_ret2
          have e : ∀ d, stepL c key dat d = d := fun d => by unfold stepL; rw [if_neg hc2, if_neg hc3, if_pos HB.out]
          exact ⟨c, _, true, lv, dv, T, rfl, by rw [e]; exact T3, Tch.of_below (chain B1 b3), Or.inl rfl, Or.inl rfl, by omega, Ext.refl T, by rw [e]; exact V3, HAP.out, fun _ => rfl⟩
        · rw [hik] at HF
          have hbi := HBI.out
          rw [hik] at hbi
          have hd4 : decide ((4096 : Int) < (dat.size : Int)) = true := by
            have : 4096 < dat.size := by simpa using hbi.symm
            exact decide_eq_true (by omega)
          clear hbi
          go_wp2_with fail
          refine (HF.out _).mono ?_
          rintro e w4 ⟨rfl, rfl⟩
          go_wp2
          go_ret2
          have e : ∀ d, stepL c key dat d = d := fun d => by unfold stepL; rw [if_neg hc2, if_neg hc3, if_pos HB.out]
          exact ⟨c, _, true, lv, dv, T, rfl, by rw [e]; exact T3, Tch.of_below (chain B1 b3), Or.inl rfl, Or.inl rfl, by omega, Ext.refl T, by rw [e]; exact V3, HAP.out, fun _ => rfl⟩
end Go.Proofs.YtpcafjbebhcilaaGreat
