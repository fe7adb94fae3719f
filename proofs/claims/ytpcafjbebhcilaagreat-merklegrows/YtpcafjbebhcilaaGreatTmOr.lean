/- MerkleOrder: the order in which records come is not seen. -/
import Derived.Test.YtpcafjbebhcilaaGreatTm46
import Derived.Test.YtpcafjbebhcilaaGreatTm45
import Derived.Test.YtpcafjbebhcilaaGreatTm34
import Derived.Test.YtpcafjbebhcilaaGreatTmS
namespace Go.Proofs.YtpcafjbebhcilaaGreat
open Go.RowKit
set_option linter.unusedSimpArgs false
set_option linter.unusedVariables false
variable {p b x y : Nat} {T T' : List ByteArray} {S : List (Int × ByteArray)} {w w' : World}

def Apt (u v : Value) : Prop := ∀ g, u.ownBlock = some g → v.ownBlock ≠ some g
theorem Apt.next {u v v' : Value} {base n z : Nat} {t : TypeId} {xs : List Value} (h : Apt u v) (ho : w.ownsRow base t z u n xs) (hn : Nx w v v') : Apt u v' := fun g hg e => by
  rcases hn with hn | hn
  · exact h g hg (hn.symm.trans e)
  · have h1 := hn g e
    have h2 := (ho.lt g hg).2
    omega
theorem Apt.or {u v : Value} (h : Apt u v) : u.ownBlock = none ∨ u.ownBlock ≠ v.ownBlock := by
  cases hq : u.ownBlock with
  | none => exact Or.inl rfl
  | some g => exact Or.inr (fun e => h g hq e.symm)
theorem apt_of {u v : Value} (h : u.ownBlock = none ∨ u.ownBlock ≠ v.ownBlock) : Apt u v := fun g hg e => by
  rcases h with h | h
  · rw [h] at hg; cases hg
  · exact h (hg.trans e.symm)
theorem apt_nil (u : Value) : Apt u (.slice none 0 0) := fun g _ e => by cases e
/-- A row beside what was changed. -/
theorem Tch.rowO {base n z B k : Nat} {t : TypeId} {v lv dv : Value} {l : List Rc} {xs : List Value} (h : Tre w B k p b x y T S l lv dv) (c : Tch k x y lv dv w w') (hv : w.ownsRow base t z v n xs) (h1 : t ≠ 60) (h2 : t ≠ 95) (h3 : t ≠ 64) (ap1 : Apt v lv) (ap2 : Apt v dv) : w'.ownsRow base t z v n xs := by
  have ha := h.book.apart hv h1 h2
  refine ⟨hv.1, ?_⟩
  rcases hv.2 with q | ⟨g, cap, cur, rfl, hb, hB, q⟩
  · exact Or.inl q
  · refine Or.inr ⟨g, cap, cur, rfl, hb, ?_, q⟩
    rw [c.block g (hv.lt g rfl).2 (fun e => ?_) (fun e => ha.2.2.1 (by rw [← e]; rfl)) (fun e => ha.2.2.2 (by rw [← e]; rfl)) (fun e => ap1 g rfl e.symm) (fun e => ap2 g rfl e.symm)]
    · exact hB
    · have := h.blk
      unfold Blk at this
      rw [e, this] at hB
      injection hB with hB
      injection hB with _ hB
      exact absurd hB.symm h3
theorem apt_types {base base' z z' n n' : Nat} {t t' : TypeId} {u v : Value} {xs xs' : List Value} (h : w.ownsRow base t z u n xs) (h' : w.ownsRow base' t' z' v n' xs') (ht : t ≠ t') : Apt u v := apt_of (own_twoM h h' ht)
/-- Another tree of the same book stays as it was. -/
theorem Tre.other {B k lB q : Nat} {lv dv lu du : Value} {l m : List Rc} (h : Tre w B k p b x y T S l lv dv) (h' : Tre w lB q p b x y T S m lu du) (c : Tch k x y lv dv w w') (hne : q ≠ k) (hB : Book w' p b x y T' S) (e : Ext T T') (a1 : Apt lu lv) (a2 : Apt du dv) : Tre w' lB q p b x y T' S m lu du := by
  obtain ⟨ls, od, hlv⟩ := h.lvs
  obtain ⟨ms, ou, hlu⟩ := h'.lvs
  have hX : Blk w' q #[.pointer (some ⟨p, 0, none⟩), lu, du] 64 := by
    refine (c.block q h'.blk.lt hne h'.away.2.2.1 h'.away.2.2.2 (fun e => ?_) (fun e => ?_)).trans h'.blk
    · obtain ⟨cur, hc⟩ := own_heap h.rows e.symm
      have := h'.blk
      unfold Blk at this
      rw [this] at hc
      injection hc with hc
      injection hc with _ hc
      exact absurd hc (by decide)
    · obtain ⟨cur, hc⟩ := own_heap od e.symm
      have := h'.blk
      unfold Blk at this
      rw [this] at hc
      injection hc with hc
      injection hc with _ hc
      exact absurd hc (by decide)
  exact ⟨hX, Tch.rowO h c h'.rows (by decide) (by decide) (by decide) a1 (apt_types h'.rows od (by decide)), ⟨ms, Tch.rowO h c ou (by decide) (by decide) (by decide) (apt_types ou h.rows (by decide)) a2, hlu.ext e⟩, hB, h'.rise, h'.fit, h'.kB, Nat.le_trans h'.BW c.size, h'.away⟩
theorem put_first {d : List Rc} (hri : Rising d) (j : Nat) (hj : j < d.length) (r : Nat) (hs : Spot (d.drop (j + 1)) d[j].key r) : putL (d.drop (j + 1)) r d[j] = d.drop j := by
  have e : d.drop j = d[j] :: d.drop (j + 1) := List.drop_eq_getElem_cons hj
  have hr : ∀ m ∈ d.drop (j + 1), lsB d[j].key m.key = true := fun m hm => by
    obtain ⟨c, hc, hjc, rfl⟩ := mem_drop_get hm
    exact hri j c (by omega) hc
  have h0 : r = 0 := by
    rcases Nat.eq_zero_or_pos r with h | h
    · exact h
    · have hl := hs.le
      have h1 := hs.lo 0 (by omega) h
      have h2 := hr _ (List.getElem_mem (show 0 < (d.drop (j + 1)).length by omega))
      have := lsB_trans h1 h2
      rw [lsB_irr] at this
      cases this
  subst h0
  have hn : hasAt (d.drop (j + 1)) 0 d[j].key = false := by
    cases hh : hasAt (d.drop (j + 1)) 0 d[j].key
    · rfl
    · obtain ⟨h1, h2⟩ := has_iff.1 hh
      have := hr _ (List.getElem_mem h1)
      rw [h2, lsB_irr] at this
      cases this
  unfold putL
  rw [hn, e]
  rfl

/-- What is true behind so many of the records. -/
structure OrI (w0 w : World) (kx ky p b x y : Nat) (T : List ByteArray) (d m : List Rc) (vd lvx dvx lvy dvy : Value) : Prop where
  tx : Tre w (kx + 1) kx p b x y T [] d lvx dvx
  ty : Tre w (ky + 1) ky p b x y T [] m lvy dvy
  rw_ : w.ownsRow w0.heap.size 47 2 vd d.length (rcCells d)
  ax : Apt vd lvx
  ay : Apt vd lvy
  al : Apt lvx lvy
  ad : Apt dvx dvy
  lo : Below w0.heap.size w0 w
theorem OrI.grew {w0 : World} {kx ky c : Nat} {d m : List Rc} {vd lvx dvx lvy dvy : Value} (h : OrI w0 w kx ky p b x y T d m vd lvx dvx lvy dvy) (hx : w0.heap.size ≤ x) (hy : w0.heap.size ≤ y) (g : Grew x y p b T [] w c T' w') : OrI w0 w' kx ky p b x y T' d m vd lvx dvx lvy dvy :=
  ⟨h.tx.grew g, h.ty.grew g, own_off2 h.tx.book h.rw_ g.off, h.ax, h.ay, h.al, h.ad, g.off.below hx hy h.lo h.lo.size⟩
theorem OrI.below {w0 : World} {kx ky : Nat} {d m : List Rc} {vd lvx dvx lvy dvy : Value} (h : OrI w0 w kx ky p b x y T d m vd lvx dvx lvy dvy) (g : Below w.heap.size w w') : OrI w0 w' kx ky p b x y T d m vd lvx dvx lvy dvy :=
  ⟨h.tx.below g, h.ty.below g, own_below h.rw_ g, h.ax, h.ay, h.al, h.ad, chain h.lo g⟩
theorem OrI.rcs {w0 : World} {kx ky : Nat} {d m : List Rc} {vd lvx dvx lvy dvy : Value} (h : OrI w0 w kx ky p b x y T d m vd lvx dvx lvy dvy) : Rcs w vd d := rcs_of_own h.rw_ (fun m hm => by have := h.tx.fit m hm; unfold maxLen; omega)

set_option maxHeartbeats 16000000 in
set_option maxRecDepth 100000 in
theorem merkleOrder_calls (v : Value) (l : List Rc) (w : World) (hl : RcsC w v l) :
    Calls Tryz.prog 4 #[v] w fun e w' => e = .returned (.bool true) ∧ Below w.heap.size w w' := by
  have HAW : Hid _ := fun (wx : World) => awake_calls wx
  have HL : Hid _ := hl.1
  obtain ⟨a, cap, rfl, _, _⟩ := hl.2
  clear hl
  go_enter Tryz.func4, Tryz.ntmps4
  go_wp2_with fail
  refine (newBook_calls _).mono ?_
  rintro e w1 ⟨p, b, x, y, rfl, hB, b1, hp, hb, hx, hy⟩
  go_wp2_with fail
  refine (treeNew_calls _ hB (by decide)).mono ?_
  rintro e w2 ⟨kx, rfl, hk2, T2, b2⟩
  go_wp2_with fail
  refine (treeNew_calls _ T2.book (by decide)).mono ?_
  rintro e w3 ⟨ky, rfl, hk3, T3, b3⟩
  have hkxy : kx < ky := by have := T2.kB; have := T2.BW; omega
  have I3 : OrI w w3 kx ky p b x y [] [] [] (.slice none 0 0) (.slice none 0 0) (.slice none 0 0) (.slice none 0 0) (.slice none 0 0) := ⟨T2.below b3, T3, World.ownsRow_nil _ _ _ _, apt_nil _, apt_nil _, apt_nil _, apt_nil _, chain (chain b1 b2) b3⟩
  have HW : Hid (w.heap.size ≤ kx ∧ w.heap.size ≤ ky ∧ w.heap.size ≤ x ∧ w.heap.size ≤ y) := ⟨by have := b1.size; omega, by have := b1.size; have := b2.size; omega, hx, hy⟩
  have HKN : Hid (kx < ky) := hkxy
  clear T2 T3 b1 b2 b3 hB hk2 hk3 hx hy hp hb hkxy
  go_wp2_with fail
  go_loopw [6, 7] (fun o i wr => ∃ (n : Nat) (T : List ByteArray) (d : List Rc) (lvx dvx : Value), n ≤ l.length ∧ n ≤ 80 ∧ i = .int .i64 n ∧ Hid (OrI w wr kx ky p b x y T d [] o lvx dvx (.slice none 0 0) (.slice none 0 0)) ∧ T.length ≤ n ∧ d.length ≤ n ∧ Hid (∀ m ∈ d, rcBad ⟨m.key, m.dat⟩ = false)) (fun o i _ => l.length - (intOf i).toNat)
  case atStart => exact ⟨0, [], [], _, _, Nat.zero_le _, Nat.zero_le _, rfl, I3, Nat.le_refl _, Nat.le_refl _, fun m hm => by cases hm⟩
  case round =>
    obtain ⟨n, T, d, lvx, dvx, hn, hn8, rfl, HI, hTl, hdl, HB0⟩ := hrel
    obtain ⟨oa, oc, rfl⟩ := own_sliceM (HI.out).rw_
    by_cases hlt : n < l.length ∧ n < 80
    · obtain ⟨hlt, hlt8⟩ := hlt
      have d1 : decide ((n : Int) < (l.length : Int)) = true := by simp only [decide_eq_true_eq]; omega
      have d2 : decide ((n : Int) < 80) = true := by simp only [decide_eq_true_eq]; omega
      have hnl : (n : Int) < (l.length : Int) := by omega
      obtain ⟨g, off, rfl, hcc⟩ : ∃ g off, a = some ⟨g, off, none⟩ ∧ (w.cell? ⟨g, off + n * 2, none⟩ = some (.string l[n].key) ∧ w.cell? ⟨g, off + n * 2 + 1, none⟩ = some (.string l[n].dat) ∧ l[n].key.size ≤ maxLen ∧ l[n].dat.size ≤ maxLen) := by
        rcases HL.out with ⟨_, h0⟩ | ⟨g, off, c, e, hx⟩
        · rw [h0] at hlt; simp at hlt
        · simp only [Value.slice.injEq] at e
          exact ⟨g, off, e.1, hx n hlt⟩
      generalize l[n] = q at *
      have HK4 : Hid (∀ wx, Below w.heap.size w wx → wx.cell? ⟨g, off + n * 2, none⟩ = some (.string q.key) ∧ wx.cell? ⟨g, off + n * 2 + 1, none⟩ = some (.string q.dat)) := fun wx hb => ⟨keepCell hb hcc.1, keepCell hb hcc.2.1⟩
      obtain ⟨c0, c1⟩ := HK4.out wr (HI.out).lo
      have HF : Hid _ := fun (wx : World) => refFits_calls q.key wx
      clear hcc
      cases hbad : rcBad ⟨q.key, q.dat⟩
      · have hisk : isK q.key = true ∧ decide (4096 < q.dat.size) = false := by
          have := rcBad_is q.key q.dat
          rw [hbad] at this
          simpa using this.symm
        have hd4 : decide ((q.dat.size : Int) ≤ 4096) = true := decide_eq_true (by have := of_decide_eq_false hisk.2; omega)
        have hd5 : (q.dat.size : Int) ≤ 4096 := of_decide_eq_true hd4
        rw [hisk.1] at HF
        have HBAD : Hid _ := hbad
        clear hisk hbad
        go_wp2_with fail
        refine (HF.out _).mono ?_
        rintro e w2 ⟨rfl, rfl⟩
        go_wp2_with fail
        refine wp_region_held_drew (S := (fun wx => wx.cell? ⟨g, off + n * 2, none⟩ = some (.string q.key) ∧ wx.cell? ⟨g, off + n * 2 + 1, none⟩ = some (.string q.dat))) (by kernel_rfl) ⟨c0, c1⟩ (fun hS => ?_)
        refine wpAnyH_take (i := 0) (v := (.slice oa d.length oc)) rfl (by kernel_rfl) (by kernel_rfl) (by kernel_rfl) (fun _ _ _ h => h) (Or.inl ⟨by rfl, fun w hS => by obtain ⟨s0, s1⟩ := hS; go_simp⟩) hS ?_
        refine wpAnyH_take (i := 1) (v := (.slice (some ⟨g, off, none⟩) l.length cap)) rfl (by kernel_rfl) (by kernel_rfl) (by kernel_rfl) (fun _ _ _ h => h) (Or.inl ⟨by rfl, fun w hS => by obtain ⟨s0, s1⟩ := hS; go_simp⟩) hS ?_
        refine wpAnyH_take (i := 2) (v := (.int .i64 n)) rfl (by kernel_rfl) (by kernel_rfl) (by kernel_rfl) (fun _ _ _ h => h) (Or.inl ⟨by rfl, fun w hS => by obtain ⟨s0, s1⟩ := hS; go_simp⟩) hS ?_
        refine wpAnyH_take (i := 3) (v := (.pointer (some ⟨g, off + n * 2, none⟩))) rfl (by kernel_rfl) (by kernel_rfl) (by kernel_rfl) (fun _ _ _ h => h) (Or.inl ⟨by rfl, fun w hS => by obtain ⟨s0, s1⟩ := hS; go_simp⟩) hS ?_
        refine wpAnyH_take (i := 4) (v := (.pointer (some ⟨g, off + n * 2, none⟩))) rfl (by kernel_rfl) (by kernel_rfl) (by kernel_rfl) (fun _ _ _ h => h) (Or.inl ⟨by rfl, fun w hS => by obtain ⟨s0, s1⟩ := hS; go_simp⟩) hS ?_
        refine wpAnyH_take (i := 5) (v := (.string q.key)) rfl (by kernel_rfl) (by kernel_rfl) (by kernel_rfl) (fun _ _ _ h => h) (Or.inl ⟨by rfl, fun w hS => by obtain ⟨s0, s1⟩ := hS; go_simp⟩) hS ?_
        refine wpAnyH_take (i := 6) (v := (.slice (some ⟨g, off, none⟩) l.length cap)) rfl (by kernel_rfl) (by kernel_rfl) (by kernel_rfl) (fun _ _ _ h => h) (Or.inl ⟨by rfl, fun w hS => by obtain ⟨s0, s1⟩ := hS; go_simp⟩) hS ?_
        refine wpAnyH_take (i := 7) (v := (.int .i64 n)) rfl (by kernel_rfl) (by kernel_rfl) (by kernel_rfl) (fun _ _ _ h => h) (Or.inl ⟨by rfl, fun w hS => by obtain ⟨s0, s1⟩ := hS; go_simp⟩) hS ?_
        refine wpAnyH_take (i := 8) (v := (.pointer (some ⟨g, off + n * 2, none⟩))) rfl (by kernel_rfl) (by kernel_rfl) (by kernel_rfl) (fun _ _ _ h => h) (Or.inl ⟨by rfl, fun w hS => by obtain ⟨s0, s1⟩ := hS; go_simp⟩) hS ?_
        refine wpAnyH_take (i := 9) (v := (.pointer (some ⟨g, off + n * 2 + 1, none⟩))) rfl (by kernel_rfl) (by kernel_rfl) (by kernel_rfl) (fun _ _ _ h => h) (Or.inl ⟨by rfl, fun w hS => by obtain ⟨s0, s1⟩ := hS; go_simp⟩) hS ?_
        refine wpAnyH_take (i := 10) (v := (.string q.dat)) rfl (by kernel_rfl) (by kernel_rfl) (by kernel_rfl) (fun _ _ _ h => h) (Or.inl ⟨by rfl, fun w hS => by obtain ⟨s0, s1⟩ := hS; go_simp⟩) hS ?_
        refine wpAnyH_ready (rs := [11]) (by kernel_rfl) (by simp) ?_
        refine AllReadyH.cons rfl (fun K hK => ?_) AllReadyH.nil
        go_simp
        refine (refPut_calls (.slice oa d.length oc) d q.key q.dat _ ((HI.out).rcs.below (Below.refl _ _).drew) (by omega)).mono ?_
        rintro e w3 ⟨v3, rfl, o3, b3⟩
        refine hK.out _ _ ⟨keepCell b3 hS.1, keepCell b3 hS.2⟩ (fun hS => ?_)
        clear hK
        refine wpAnyH_ready (rs := [12]) (by kernel_rfl) (by simp) ?_
        refine AllReadyH.cons rfl (fun K hK => ?_) AllReadyH.nil
        go_simp
        refine hK.out _ _ hS (fun hS => ?_)
        clear hK
        refine wpAnyH_done (by kernel_rfl) ?_ _
        obtain ⟨oa3, oc3, rfl⟩ := own_sliceM o3
        have I2 := (HI.out).below ((Below.refl _ _).drew)
        have hX3 : Tre w3 (kx + 1) kx p b x y T [] d lvx dvx := I2.tx.below b3
        have HX3 : Hid (Tre w3.drew (kx + 1) kx p b x y T [] d lvx dvx) := hX3.below (Below.refl _ _).drew
        have zlo := (HI.out).lo.size
        have HI3 : Hid (OrI w w3.drew kx ky p b x y T d [] (.slice oa d.length oc) lvx dvx (.slice none 0 0) (.slice none 0 0)) := (I2.below b3).below (Below.refl _ _).drew
        have HO3 : Hid (w3.drew.ownsRow w.heap.size 47 2 (.slice oa3 (goP ⟨q.key, q.dat⟩ false d).length oc3) (goP ⟨q.key, q.dat⟩ false d).length (rcCells (goP ⟨q.key, q.dat⟩ false d)) ∧ Apt (.slice oa3 (goP ⟨q.key, q.dat⟩ false d).length oc3) lvx) := ⟨ownsRow_weakM o3 zlo, fun g hg e => by
          have h1 := (o3.lt g hg).1
          have h2 := ((HI.out).tx.rows.lt g e).2
          have : w2.heap.size ≤ g := h1
          omega⟩
        have hS3 : _ ∧ _ := hS
        clear hS I2 hX3 o3 b3 c0 c1 HI
        go_wp2_with fail
        refine wp_region_held_drew (S := (fun wx => wx.cell? ⟨g, off + n * 2, none⟩ = some (.string q.key) ∧ wx.cell? ⟨g, off + n * 2 + 1, none⟩ = some (.string q.dat))) (by kernel_rfl) ⟨hS3.1, hS3.2⟩ (fun hS => ?_)
        refine wpAnyH_take (i := 0) (v := (.pointer (some ⟨kx, 0, none⟩))) rfl (by kernel_rfl) (by kernel_rfl) (by kernel_rfl) (fun _ _ _ h => h) (Or.inl ⟨by rfl, fun w hS => by obtain ⟨s0, s1⟩ := hS; go_simp⟩) hS ?_
        refine wpAnyH_take (i := 1) (v := (.slice (some ⟨g, off, none⟩) l.length cap)) rfl (by kernel_rfl) (by kernel_rfl) (by kernel_rfl) (fun _ _ _ h => h) (Or.inl ⟨by rfl, fun w hS => by obtain ⟨s0, s1⟩ := hS; go_simp⟩) hS ?_
        refine wpAnyH_take (i := 2) (v := (.int .i64 n)) rfl (by kernel_rfl) (by kernel_rfl) (by kernel_rfl) (fun _ _ _ h => h) (Or.inl ⟨by rfl, fun w hS => by obtain ⟨s0, s1⟩ := hS; go_simp⟩) hS ?_
        refine wpAnyH_take (i := 3) (v := (.pointer (some ⟨g, off + n * 2, none⟩))) rfl (by kernel_rfl) (by kernel_rfl) (by kernel_rfl) (fun _ _ _ h => h) (Or.inl ⟨by rfl, fun w hS => by obtain ⟨s0, s1⟩ := hS; go_simp⟩) hS ?_
        refine wpAnyH_take (i := 4) (v := (.pointer (some ⟨g, off + n * 2, none⟩))) rfl (by kernel_rfl) (by kernel_rfl) (by kernel_rfl) (fun _ _ _ h => h) (Or.inl ⟨by rfl, fun w hS => by obtain ⟨s0, s1⟩ := hS; go_simp⟩) hS ?_
        refine wpAnyH_take (i := 5) (v := (.string q.key)) rfl (by kernel_rfl) (by kernel_rfl) (by kernel_rfl) (fun _ _ _ h => h) (Or.inl ⟨by rfl, fun w hS => by obtain ⟨s0, s1⟩ := hS; go_simp⟩) hS ?_
        refine wpAnyH_take (i := 6) (v := (.slice (some ⟨g, off, none⟩) l.length cap)) rfl (by kernel_rfl) (by kernel_rfl) (by kernel_rfl) (fun _ _ _ h => h) (Or.inl ⟨by rfl, fun w hS => by obtain ⟨s0, s1⟩ := hS; go_simp⟩) hS ?_
        refine wpAnyH_take (i := 7) (v := (.int .i64 n)) rfl (by kernel_rfl) (by kernel_rfl) (by kernel_rfl) (fun _ _ _ h => h) (Or.inl ⟨by rfl, fun w hS => by obtain ⟨s0, s1⟩ := hS; go_simp⟩) hS ?_
        refine wpAnyH_take (i := 8) (v := (.pointer (some ⟨g, off + n * 2, none⟩))) rfl (by kernel_rfl) (by kernel_rfl) (by kernel_rfl) (fun _ _ _ h => h) (Or.inl ⟨by rfl, fun w hS => by obtain ⟨s0, s1⟩ := hS; go_simp⟩) hS ?_
        refine wpAnyH_take (i := 9) (v := (.pointer (some ⟨g, off + n * 2 + 1, none⟩))) rfl (by kernel_rfl) (by kernel_rfl) (by kernel_rfl) (fun _ _ _ h => h) (Or.inl ⟨by rfl, fun w hS => by obtain ⟨s0, s1⟩ := hS; go_simp⟩) hS ?_
        refine wpAnyH_take (i := 10) (v := (.string q.dat)) rfl (by kernel_rfl) (by kernel_rfl) (by kernel_rfl) (fun _ _ _ h => h) (Or.inl ⟨by rfl, fun w hS => by obtain ⟨s0, s1⟩ := hS; go_simp⟩) hS ?_
        refine wpAnyH_ready (rs := [11]) (by kernel_rfl) (by simp) ?_
        refine AllReadyH.cons rfl (fun K hK => ?_) AllReadyH.nil
        go_simp
        refine (treePut_calls q.key q.dat _ (HX3.out) (by omega) (by omega) HBAD.out).mono ?_
        rintro e w4 ⟨rfl, r, lvx', dvx', hsp, T4, C4, N4, M4⟩
        refine hK.out _ _ ⟨HK4.out w4 (Tch.low HX3.out C4 HW.out.1 HW.out.2.2.1 HW.out.2.2.2 (HI3.out).lo) |>.1, HK4.out w4 (Tch.low HX3.out C4 HW.out.1 HW.out.2.2.1 HW.out.2.2.2 (HI3.out).lo) |>.2⟩ (fun hS => ?_)
        clear hK
        refine wpAnyH_done (by kernel_rfl) ?_ _
        have I3 := HI3.out
        have z3 : d.length ≤ n := by omega
        have hgp : goP ⟨q.key, q.dat⟩ false d = putL d r ⟨q.key, q.dat⟩ := by rw [goP_put I3.tx.rise, ← hsp.pos]
        have Lo4 := Tch.low HX3.out C4 HW.out.1 HW.out.2.2.1 HW.out.2.2.2 I3.lo
        have I4 : OrI w w4 kx ky p b x y (note T (leafT ⟨q.key, q.dat⟩)) (putL d r ⟨q.key, q.dat⟩) [] (.slice oa3 (goP ⟨q.key, q.dat⟩ false d).length oc3) lvx' dvx' (.slice none 0 0) (.slice none 0 0) :=
          ⟨T4, Tre.other HX3.out I3.ty C4 (by have := HKN.out; omega) T4.book (Ext.note _ _) (fun g hg => by cases hg) (fun g hg => by cases hg), by rw [← hgp]; exact Tch.rowR HX3.out C4 HO3.out.1 HO3.out.2.or, HO3.out.2.next HO3.out.1 N4, apt_nil _, apt_nil _, apt_nil _, Lo4⟩
        have HI4 : Hid _ := I4
        have HB5 : Hid (∀ m ∈ putL d r ⟨q.key, q.dat⟩, rcBad ⟨m.key, m.dat⟩ = false) := fun m hm => by
          rcases putL_mem hm with rfl | hm
          · exact HBAD.out
          · exact HB0.out m hm
        have nl := note_len T (leafT ⟨q.key, q.dat⟩)
        have pl := putL_len d r ⟨q.key, q.dat⟩
        clear hS hS3 I3 I4 hgp hsp T4 C4 N4 M4 Lo4
        go_wp2
        refine ⟨⟨n + 1, _, _, lvx', dvx', by omega, by omega, by norm_cast, HI4.out, by omega, by omega, HB5⟩, ?_⟩
        simp [intOf]; omega
      · have HBI : Hid _ := rcBad_is q.key q.dat
        rw [hbad] at HBI
        clear hbad
        cases hik : isK q.key
        · rw [hik] at HF
          go_wp2_with fail
          refine (HF.out _).mono ?_
          rintro e w2 ⟨rfl, rfl⟩
          go_wp2
          refine ⟨⟨n + 1, T, d, lvx, dvx, by omega, by omega, by norm_cast, HI.out, by omega, by omega, HB0⟩, ?_⟩
          simp [intOf]; omega
        · rw [hik] at HF
          have hbi := HBI.out
          rw [hik] at hbi
          have hd4 : decide ((q.dat.size : Int) ≤ 4096) = false := by
            have : 4096 < q.dat.size := by simpa using hbi.symm
            exact decide_eq_false (by omega)
          have hd5 : ¬ (q.dat.size : Int) ≤ 4096 := of_decide_eq_false hd4
          clear hbi
          go_wp2_with fail
          refine (HF.out _).mono ?_
          rintro e w2 ⟨rfl, rfl⟩
          go_wp2
          refine ⟨⟨n + 1, T, d, lvx, dvx, by omega, by omega, by norm_cast, HI.out, by omega, by omega, HB0⟩, ?_⟩
          simp [intOf]; omega
    · have hend : Hid (T.length ≤ 80 ∧ d.length ≤ 80) := ⟨by omega, by omega⟩
      have hstop : decide ((n : Int) < (l.length : Int)) = false ∨ (decide ((n : Int) < (l.length : Int)) = true ∧ decide ((n : Int) < 80) = false) := by
        rcases Nat.lt_or_ge n l.length with h1 | h1
        · exact Or.inr ⟨decide_eq_true (by omega), decide_eq_false (by omega)⟩
        · exact Or.inl (decide_eq_false (by omega))
      obtain ⟨hT8, hd8⟩ := hend.out
      have hw1 : IntKind.i64.wrap ((d.length : Int) - 1) = (d.length : Int) - 1 := by rw [IntKind.wrap_i64]; omega
      clear hlt hn hn8 hTl hdl HL
      rcases hstop with hs | ⟨hs1, hs2⟩
      · have hs3 : ¬ (n : Int) < (l.length : Int) := of_decide_eq_false hs
        have HB1 : Hid (∀ m ∈ d, rcBad ⟨m.key, m.dat⟩ = false) := HB0.out
        go_wp2_with fail
        go_loopw [8] (fun i wz => ∃ (m : Nat) (T : List ByteArray) (lvy dvy : Value), m ≤ d.length ∧ i = .int .i64 ((m : Int) - 1) ∧ Hid (OrI w wz kx ky p b x y T d (d.drop m) (.slice oa d.length oc) lvx dvx lvy dvy) ∧ T.length ≤ 80 + (d.length - m)) (fun i _ => (intOf i + 1).toNat)
        case atStart => exact ⟨d.length, T, _, _, Nat.le_refl _, rfl, by rw [List.drop_length]; exact HI.out, by omega⟩
        case round =>
          obtain ⟨m, T2, lvy, dvy, hm, hi, HI2, hT2⟩ := hrel
          rcases Nat.eq_zero_or_pos m with h0 | h0
          · subst h0
            rw [show ((0 : Nat) : Int) - 1 = -1 by decide] at hi
            subst hi
            have HI3 : Hid (OrI w wr kx ky p b x y T2 d d (.slice oa d.length oc) lvx dvx lvy dvy) := HI2.out
            clear HI2 HI
            go_wp2_with fail
            refine Calls.mono (treeRootM_calls wr (HI3.out).tx (by omega) (by omega)) ?_
            rintro e w4 ⟨rt4, T4, rfl, hR4, G4⟩
            have l4 := G4.len
            have HI4 : Hid _ := (HI3.out).grew HW.out.2.2.1 HW.out.2.2.2 G4
            have z4 : T4.length ≤ 300 := by omega
            have HR4 : Hid _ := hR4
            clear hR4 G4 l4 HI3
            go_wp2_with fail
            refine Calls.mono (treeRootM_calls w4 (HI4.out).ty (by omega) (by omega)) ?_
            rintro e w5 ⟨rt5, T5, rfl, hR5, G5⟩
            have l5 := G5.len
            have HI5 : Hid _ := (HI4.out).grew HW.out.2.2.1 HW.out.2.2.2 G5
            have z5 : T5.length ≤ 400 := by omega
            have e5 : rt5 = rt4 := hR5.same (RootOf.ext G5.ext HR4.out)
            subst e5
            have HR5 : Hid _ := hR5
            clear hR5 G5 l5 HI4 HR4
            go_wp2_with fail
            refine Calls.mono (treeRootM_calls w5 (HI5.out).tx (by omega) (by omega)) ?_
            rintro e w6 ⟨rt6, T6, rfl, hR6, G6⟩
            have l6 := G6.len
            have HI6 : Hid _ := (HI5.out).grew HW.out.2.2.1 HW.out.2.2.2 G6
            have z6 : T6.length ≤ 500 := by omega
            have HR6 : Hid _ := hR6
            clear hR6 G6 l6 HI5 HR5
            go_wp2_with fail
            refine Calls.mono (root_law (.slice oa d.length oc) d w6 (by omega) (HI6.out).rcs (HI6.out).tx.fit (HI6.out).tx.book (by omega)) ?_
            rintro e w7 ⟨rt7, T7, rfl, hR7, G7⟩
            have e7 : rt7 = rt6 := hR7.same (RootOf.ext G7.ext HR6.out)
            subst e7
            have HI7 : Hid _ := (HI6.out).grew HW.out.2.2.1 HW.out.2.2.2 G7
            clear hR7 G7 HI6 HR6
            go_wp2_with fail
            refine (HAW.out _).mono ?_
            rintro e w8 ⟨rfl, b8⟩
            go_wp2
            go_ret
            exact ⟨rfl, chain (HI7.out).lo b8⟩
          · obtain ⟨j, rfl⟩ : ∃ j, m = j + 1 := ⟨m - 1, by omega⟩
            rw [show ((j + 1 : Nat) : Int) - 1 = (j : Int) by omega] at hi
            subst hi
            have hjd : j < d.length := by omega
            have hjl : (j : Int) < (d.length : Int) := by omega
            have hw2 : IntKind.i64.wrap ((j : Int) - 1) = (j : Int) - 1 := by rw [IntKind.wrap_i64]; omega
            have hbd : rcBad ⟨d[j].key, d[j].dat⟩ = false := HB1.out d[j] (List.getElem_mem hjd)
            obtain ⟨g2, rfl, HC4⟩ : ∃ g2, oa = some ⟨g2, 0, none⟩ ∧ Hid (∀ wx : World, wx.ownsRow w.heap.size 47 2 (.slice (some ⟨g2, 0, none⟩) d.length oc) d.length (rcCells d) → wx.cell? ⟨g2, j * 2, none⟩ = some (.string d[j].key) ∧ wx.cell? ⟨g2, j * 2 + 1, none⟩ = some (.string d[j].dat)) := by
              obtain ⟨g2, c2, q, _, _⟩ := (HI2.out).rw_.form (by omega)
              injection q with q1 _ q3
              subst q1
              exact ⟨g2, rfl, fun wx ho => ⟨by rw [ho.cellAt _ (by omega)]; exact (rcCells_at d j hjd).1, by rw [ho.cellAt _ (by omega)]; exact (rcCells_at d j hjd).2⟩⟩
            have HN2 : Hid (∀ {w4 : World} {r : Nat} {lvy' dvy' : Value}, Tre w4 (ky + 1) ky p b x y (note T2 (leafT ⟨d[j].key, d[j].dat⟩)) [] (putL (d.drop (j + 1)) r ⟨d[j].key, d[j].dat⟩) lvy' dvy' → Tch ky x y lvy dvy wr.drew w4 → Nx wr.drew lvy lvy' → Nx wr.drew dvy dvy' → Spot (d.drop (j + 1)) d[j].key r → OrI w w4 kx ky p b x y (note T2 (leafT ⟨d[j].key, d[j].dat⟩)) d (d.drop j) (.slice (some ⟨g2, 0, none⟩) d.length oc) lvx dvx lvy' dvy') := by
              show ∀ {w4 : World} {r : Nat} {lvy' dvy' : Value}, _
              intro w4 r lvy' dvy' T4 C4 N4 M4 hsp
              have I2 := (HI2.out).below (Below.refl _ _).drew
              have hp := put_first I2.tx.rise j hjd r hsp
              rw [show (⟨d[j].key, d[j].dat⟩ : Rc) = d[j] from rfl] at T4 ⊢
              rw [hp] at T4
              obtain ⟨xs1, ox1, _⟩ := I2.tx.lvs
              exact ⟨Tre.other I2.ty I2.tx C4 (by have := HKN.out; omega) T4.book (Ext.note _ _) I2.al I2.ad, T4, Tch.rowR I2.ty C4 I2.rw_ I2.ay.or, I2.ax, I2.ay.next I2.rw_ N4, I2.al.next I2.tx.rows N4, I2.ad.next ox1 M4, Tch.low I2.ty C4 HW.out.2.1 HW.out.2.2.1 HW.out.2.2.2 I2.lo⟩
            obtain ⟨c0, c1⟩ := HC4.out wr (HI2.out).rw_
            have HY2 : Hid (Tre wr.drew (ky + 1) ky p b x y T2 [] (d.drop (j + 1)) lvy dvy) := ((HI2.out).below (Below.refl _ _).drew).ty
            have hdl : (d.drop (j + 1)).length < 4096 := by rw [List.length_drop]; omega
            have HBAD : Hid _ := hbd
            clear hbd HI HI2
            generalize d[j] = q at *
            go_wp2_with fail
            refine wp_region_held_drew (S := (fun wx => wx.cell? ⟨g2, j * 2, none⟩ = some (.string q.key) ∧ wx.cell? ⟨g2, j * 2 + 1, none⟩ = some (.string q.dat))) (by kernel_rfl) ⟨c0, c1⟩ (fun hS => ?_)
            refine wpAnyH_take (i := 0) (v := (.pointer (some ⟨ky, 0, none⟩))) rfl (by kernel_rfl) (by kernel_rfl) (by kernel_rfl) (fun _ _ _ h => h) (Or.inl ⟨by rfl, fun w hS => by obtain ⟨s0, s1⟩ := hS; go_simp⟩) hS ?_
            refine wpAnyH_take (i := 1) (v := (.slice (some ⟨g2, 0, none⟩) d.length oc)) rfl (by kernel_rfl) (by kernel_rfl) (by kernel_rfl) (fun _ _ _ h => h) (Or.inl ⟨by rfl, fun w hS => by obtain ⟨s0, s1⟩ := hS; go_simp⟩) hS ?_
            refine wpAnyH_take (i := 2) (v := (.int .i64 j)) rfl (by kernel_rfl) (by kernel_rfl) (by kernel_rfl) (fun _ _ _ h => h) (Or.inl ⟨by rfl, fun w hS => by obtain ⟨s0, s1⟩ := hS; go_simp⟩) hS ?_
            refine wpAnyH_take (i := 3) (v := (.pointer (some ⟨g2, j * 2, none⟩))) rfl (by kernel_rfl) (by kernel_rfl) (by kernel_rfl) (fun _ _ _ h => h) (Or.inl ⟨by rfl, fun w hS => by obtain ⟨s0, s1⟩ := hS; go_simp⟩) hS ?_
            refine wpAnyH_take (i := 4) (v := (.pointer (some ⟨g2, j * 2, none⟩))) rfl (by kernel_rfl) (by kernel_rfl) (by kernel_rfl) (fun _ _ _ h => h) (Or.inl ⟨by rfl, fun w hS => by obtain ⟨s0, s1⟩ := hS; go_simp⟩) hS ?_
            refine wpAnyH_take (i := 5) (v := (.string q.key)) rfl (by kernel_rfl) (by kernel_rfl) (by kernel_rfl) (fun _ _ _ h => h) (Or.inl ⟨by rfl, fun w hS => by obtain ⟨s0, s1⟩ := hS; go_simp⟩) hS ?_
            refine wpAnyH_take (i := 6) (v := (.slice (some ⟨g2, 0, none⟩) d.length oc)) rfl (by kernel_rfl) (by kernel_rfl) (by kernel_rfl) (fun _ _ _ h => h) (Or.inl ⟨by rfl, fun w hS => by obtain ⟨s0, s1⟩ := hS; go_simp⟩) hS ?_
            refine wpAnyH_take (i := 7) (v := (.int .i64 j)) rfl (by kernel_rfl) (by kernel_rfl) (by kernel_rfl) (fun _ _ _ h => h) (Or.inl ⟨by rfl, fun w hS => by obtain ⟨s0, s1⟩ := hS; go_simp⟩) hS ?_
            refine wpAnyH_take (i := 8) (v := (.pointer (some ⟨g2, j * 2, none⟩))) rfl (by kernel_rfl) (by kernel_rfl) (by kernel_rfl) (fun _ _ _ h => h) (Or.inl ⟨by rfl, fun w hS => by obtain ⟨s0, s1⟩ := hS; go_simp⟩) hS ?_
            refine wpAnyH_take (i := 9) (v := (.pointer (some ⟨g2, j * 2 + 1, none⟩))) rfl (by kernel_rfl) (by kernel_rfl) (by kernel_rfl) (fun _ _ _ h => h) (Or.inl ⟨by rfl, fun w hS => by obtain ⟨s0, s1⟩ := hS; go_simp⟩) hS ?_
            refine wpAnyH_take (i := 10) (v := (.string q.dat)) rfl (by kernel_rfl) (by kernel_rfl) (by kernel_rfl) (fun _ _ _ h => h) (Or.inl ⟨by rfl, fun w hS => by obtain ⟨s0, s1⟩ := hS; go_simp⟩) hS ?_
            refine wpAnyH_ready (rs := [11]) (by kernel_rfl) (by simp) ?_
            refine AllReadyH.cons rfl (fun K hK => ?_) AllReadyH.nil
            go_simp
            refine (treePut_calls q.key q.dat _ (HY2.out) (by omega) (by omega) HBAD.out).mono ?_
            rintro e w4 ⟨rfl, r, lvy', dvy', hsp, T4, C4, N4, M4⟩
            have I4 := HN2.out T4 C4 N4 M4 hsp
            refine hK.out _ _ ⟨HC4.out _ I4.rw_ |>.1, HC4.out _ I4.rw_ |>.2⟩ (fun hS => ?_)
            clear hK
            refine wpAnyH_done (by kernel_rfl) ?_ _
            have HI4 : Hid _ := I4
            have nl := note_len T2 (leafT ⟨q.key, q.dat⟩)
            clear hS I4 hsp T4 C4 N4 M4
            go_wp2
            refine ⟨⟨j, _, lvy', dvy', by omega, rfl, HI4.out, by omega⟩, ?_⟩
            simp [intOf] <;> omega
      · have hs3 : (n : Int) < (l.length : Int) := of_decide_eq_true hs1
        have hs4 : ¬ (n : Int) < 80 := of_decide_eq_false hs2
        have HB1 : Hid (∀ m ∈ d, rcBad ⟨m.key, m.dat⟩ = false) := HB0.out
        go_wp2_with fail
        go_loopw [8] (fun i wz => ∃ (m : Nat) (T : List ByteArray) (lvy dvy : Value), m ≤ d.length ∧ i = .int .i64 ((m : Int) - 1) ∧ Hid (OrI w wz kx ky p b x y T d (d.drop m) (.slice oa d.length oc) lvx dvx lvy dvy) ∧ T.length ≤ 80 + (d.length - m)) (fun i _ => (intOf i + 1).toNat)
        case atStart => exact ⟨d.length, T, _, _, Nat.le_refl _, rfl, by rw [List.drop_length]; exact HI.out, by omega⟩
        case round =>
          obtain ⟨m, T2, lvy, dvy, hm, hi, HI2, hT2⟩ := hrel
          rcases Nat.eq_zero_or_pos m with h0 | h0
          · subst h0
            rw [show ((0 : Nat) : Int) - 1 = -1 by decide] at hi
            subst hi
            have HI3 : Hid (OrI w wr kx ky p b x y T2 d d (.slice oa d.length oc) lvx dvx lvy dvy) := HI2.out
            clear HI2 HI
            go_wp2_with fail
            refine Calls.mono (treeRootM_calls wr (HI3.out).tx (by omega) (by omega)) ?_
            rintro e w4 ⟨rt4, T4, rfl, hR4, G4⟩
            have l4 := G4.len
            have HI4 : Hid _ := (HI3.out).grew HW.out.2.2.1 HW.out.2.2.2 G4
            have z4 : T4.length ≤ 300 := by omega
            have HR4 : Hid _ := hR4
            clear hR4 G4 l4 HI3
            go_wp2_with fail
            refine Calls.mono (treeRootM_calls w4 (HI4.out).ty (by omega) (by omega)) ?_
            rintro e w5 ⟨rt5, T5, rfl, hR5, G5⟩
            have l5 := G5.len
            have HI5 : Hid _ := (HI4.out).grew HW.out.2.2.1 HW.out.2.2.2 G5
            have z5 : T5.length ≤ 400 := by omega
            have e5 : rt5 = rt4 := hR5.same (RootOf.ext G5.ext HR4.out)
            subst e5
            have HR5 : Hid _ := hR5
            clear hR5 G5 l5 HI4 HR4
            go_wp2_with fail
            refine Calls.mono (treeRootM_calls w5 (HI5.out).tx (by omega) (by omega)) ?_
            rintro e w6 ⟨rt6, T6, rfl, hR6, G6⟩
            have l6 := G6.len
            have HI6 : Hid _ := (HI5.out).grew HW.out.2.2.1 HW.out.2.2.2 G6
            have z6 : T6.length ≤ 500 := by omega
            have HR6 : Hid _ := hR6
            clear hR6 G6 l6 HI5 HR5
            go_wp2_with fail
            refine Calls.mono (root_law (.slice oa d.length oc) d w6 (by omega) (HI6.out).rcs (HI6.out).tx.fit (HI6.out).tx.book (by omega)) ?_
            rintro e w7 ⟨rt7, T7, rfl, hR7, G7⟩
            have e7 : rt7 = rt6 := hR7.same (RootOf.ext G7.ext HR6.out)
            subst e7
            have HI7 : Hid _ := (HI6.out).grew HW.out.2.2.1 HW.out.2.2.2 G7
            clear hR7 G7 HI6 HR6
            go_wp2_with fail
            refine (HAW.out _).mono ?_
            rintro e w8 ⟨rfl, b8⟩
            go_wp2
            go_ret
            exact ⟨rfl, chain (HI7.out).lo b8⟩
          · obtain ⟨j, rfl⟩ : ∃ j, m = j + 1 := ⟨m - 1, by omega⟩
            rw [show ((j + 1 : Nat) : Int) - 1 = (j : Int) by omega] at hi
            subst hi
            have hjd : j < d.length := by omega
            have hjl : (j : Int) < (d.length : Int) := by omega
            have hw2 : IntKind.i64.wrap ((j : Int) - 1) = (j : Int) - 1 := by rw [IntKind.wrap_i64]; omega
            have hbd : rcBad ⟨d[j].key, d[j].dat⟩ = false := HB1.out d[j] (List.getElem_mem hjd)
            obtain ⟨g2, rfl, HC4⟩ : ∃ g2, oa = some ⟨g2, 0, none⟩ ∧ Hid (∀ wx : World, wx.ownsRow w.heap.size 47 2 (.slice (some ⟨g2, 0, none⟩) d.length oc) d.length (rcCells d) → wx.cell? ⟨g2, j * 2, none⟩ = some (.string d[j].key) ∧ wx.cell? ⟨g2, j * 2 + 1, none⟩ = some (.string d[j].dat)) := by
              obtain ⟨g2, c2, q, _, _⟩ := (HI2.out).rw_.form (by omega)
              injection q with q1 _ q3
              subst q1
              exact ⟨g2, rfl, fun wx ho => ⟨by rw [ho.cellAt _ (by omega)]; exact (rcCells_at d j hjd).1, by rw [ho.cellAt _ (by omega)]; exact (rcCells_at d j hjd).2⟩⟩
            have HN2 : Hid (∀ {w4 : World} {r : Nat} {lvy' dvy' : Value}, Tre w4 (ky + 1) ky p b x y (note T2 (leafT ⟨d[j].key, d[j].dat⟩)) [] (putL (d.drop (j + 1)) r ⟨d[j].key, d[j].dat⟩) lvy' dvy' → Tch ky x y lvy dvy wr.drew w4 → Nx wr.drew lvy lvy' → Nx wr.drew dvy dvy' → Spot (d.drop (j + 1)) d[j].key r → OrI w w4 kx ky p b x y (note T2 (leafT ⟨d[j].key, d[j].dat⟩)) d (d.drop j) (.slice (some ⟨g2, 0, none⟩) d.length oc) lvx dvx lvy' dvy') := by
              show ∀ {w4 : World} {r : Nat} {lvy' dvy' : Value}, _
              intro w4 r lvy' dvy' T4 C4 N4 M4 hsp
              have I2 := (HI2.out).below (Below.refl _ _).drew
              have hp := put_first I2.tx.rise j hjd r hsp
              rw [show (⟨d[j].key, d[j].dat⟩ : Rc) = d[j] from rfl] at T4 ⊢
              rw [hp] at T4
              obtain ⟨xs1, ox1, _⟩ := I2.tx.lvs
              exact ⟨Tre.other I2.ty I2.tx C4 (by have := HKN.out; omega) T4.book (Ext.note _ _) I2.al I2.ad, T4, Tch.rowR I2.ty C4 I2.rw_ I2.ay.or, I2.ax, I2.ay.next I2.rw_ N4, I2.al.next I2.tx.rows N4, I2.ad.next ox1 M4, Tch.low I2.ty C4 HW.out.2.1 HW.out.2.2.1 HW.out.2.2.2 I2.lo⟩
            obtain ⟨c0, c1⟩ := HC4.out wr (HI2.out).rw_
            have HY2 : Hid (Tre wr.drew (ky + 1) ky p b x y T2 [] (d.drop (j + 1)) lvy dvy) := ((HI2.out).below (Below.refl _ _).drew).ty
            have hdl : (d.drop (j + 1)).length < 4096 := by rw [List.length_drop]; omega
            have HBAD : Hid _ := hbd
            clear hbd HI HI2
            generalize d[j] = q at *
            go_wp2_with fail
            refine wp_region_held_drew (S := (fun wx => wx.cell? ⟨g2, j * 2, none⟩ = some (.string q.key) ∧ wx.cell? ⟨g2, j * 2 + 1, none⟩ = some (.string q.dat))) (by kernel_rfl) ⟨c0, c1⟩ (fun hS => ?_)
            refine wpAnyH_take (i := 0) (v := (.pointer (some ⟨ky, 0, none⟩))) rfl (by kernel_rfl) (by kernel_rfl) (by kernel_rfl) (fun _ _ _ h => h) (Or.inl ⟨by rfl, fun w hS => by obtain ⟨s0, s1⟩ := hS; go_simp⟩) hS ?_
            refine wpAnyH_take (i := 1) (v := (.slice (some ⟨g2, 0, none⟩) d.length oc)) rfl (by kernel_rfl) (by kernel_rfl) (by kernel_rfl) (fun _ _ _ h => h) (Or.inl ⟨by rfl, fun w hS => by obtain ⟨s0, s1⟩ := hS; go_simp⟩) hS ?_
            refine wpAnyH_take (i := 2) (v := (.int .i64 j)) rfl (by kernel_rfl) (by kernel_rfl) (by kernel_rfl) (fun _ _ _ h => h) (Or.inl ⟨by rfl, fun w hS => by obtain ⟨s0, s1⟩ := hS; go_simp⟩) hS ?_
            refine wpAnyH_take (i := 3) (v := (.pointer (some ⟨g2, j * 2, none⟩))) rfl (by kernel_rfl) (by kernel_rfl) (by kernel_rfl) (fun _ _ _ h => h) (Or.inl ⟨by rfl, fun w hS => by obtain ⟨s0, s1⟩ := hS; go_simp⟩) hS ?_
            refine wpAnyH_take (i := 4) (v := (.pointer (some ⟨g2, j * 2, none⟩))) rfl (by kernel_rfl) (by kernel_rfl) (by kernel_rfl) (fun _ _ _ h => h) (Or.inl ⟨by rfl, fun w hS => by obtain ⟨s0, s1⟩ := hS; go_simp⟩) hS ?_
            refine wpAnyH_take (i := 5) (v := (.string q.key)) rfl (by kernel_rfl) (by kernel_rfl) (by kernel_rfl) (fun _ _ _ h => h) (Or.inl ⟨by rfl, fun w hS => by obtain ⟨s0, s1⟩ := hS; go_simp⟩) hS ?_
            refine wpAnyH_take (i := 6) (v := (.slice (some ⟨g2, 0, none⟩) d.length oc)) rfl (by kernel_rfl) (by kernel_rfl) (by kernel_rfl) (fun _ _ _ h => h) (Or.inl ⟨by rfl, fun w hS => by obtain ⟨s0, s1⟩ := hS; go_simp⟩) hS ?_
            refine wpAnyH_take (i := 7) (v := (.int .i64 j)) rfl (by kernel_rfl) (by kernel_rfl) (by kernel_rfl) (fun _ _ _ h => h) (Or.inl ⟨by rfl, fun w hS => by obtain ⟨s0, s1⟩ := hS; go_simp⟩) hS ?_
            refine wpAnyH_take (i := 8) (v := (.pointer (some ⟨g2, j * 2, none⟩))) rfl (by kernel_rfl) (by kernel_rfl) (by kernel_rfl) (fun _ _ _ h => h) (Or.inl ⟨by rfl, fun w hS => by obtain ⟨s0, s1⟩ := hS; go_simp⟩) hS ?_
            refine wpAnyH_take (i := 9) (v := (.pointer (some ⟨g2, j * 2 + 1, none⟩))) rfl (by kernel_rfl) (by kernel_rfl) (by kernel_rfl) (fun _ _ _ h => h) (Or.inl ⟨by rfl, fun w hS => by obtain ⟨s0, s1⟩ := hS; go_simp⟩) hS ?_
            refine wpAnyH_take (i := 10) (v := (.string q.dat)) rfl (by kernel_rfl) (by kernel_rfl) (by kernel_rfl) (fun _ _ _ h => h) (Or.inl ⟨by rfl, fun w hS => by obtain ⟨s0, s1⟩ := hS; go_simp⟩) hS ?_
            refine wpAnyH_ready (rs := [11]) (by kernel_rfl) (by simp) ?_
            refine AllReadyH.cons rfl (fun K hK => ?_) AllReadyH.nil
            go_simp
            refine (treePut_calls q.key q.dat _ (HY2.out) (by omega) (by omega) HBAD.out).mono ?_
            rintro e w4 ⟨rfl, r, lvy', dvy', hsp, T4, C4, N4, M4⟩
            have I4 := HN2.out T4 C4 N4 M4 hsp
            refine hK.out _ _ ⟨HC4.out _ I4.rw_ |>.1, HC4.out _ I4.rw_ |>.2⟩ (fun hS => ?_)
            clear hK
            refine wpAnyH_done (by kernel_rfl) ?_ _
            have HI4 : Hid _ := I4
            have nl := note_len T2 (leafT ⟨q.key, q.dat⟩)
            clear hS I4 hsp T4 C4 N4 M4
            go_wp2
            refine ⟨⟨j, _, lvy', dvy', by omega, rfl, HI4.out, by omega⟩, ?_⟩
            simp [intOf] <;> omega
end Go.Proofs.YtpcafjbebhcilaaGreat
