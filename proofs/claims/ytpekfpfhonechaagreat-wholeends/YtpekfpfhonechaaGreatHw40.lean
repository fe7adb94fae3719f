/- The house: put. -/
import Derived.Test.YtpekfpfhonechaaGreatHw39
import Derived.Test.YtpekfpfhonechaaGreatHw23
namespace Go.Proofs.YtpekfpfhonechaaGreat
open Go.RowKit
set_option linter.unusedSimpArgs false
set_option linter.unusedVariables false
variable {base : Nat}

theorem ordR_ok {g : Nat} {who : Int} {o : Oo} (h : (ordR g who o).2 = 0) : (0 ≤ o.g ∧ o.g ≤ (g : Int) - 1) ∧ (1 ≤ o.a ∧ o.a ≤ 1048576) ∧ (ordR g who o).1 = (16 * o.i + who, who, (Quo.ticksR o.pr 6).1, o.a, 0, o.d == 0) ∧ (Quo.ticksR o.pr 6).2 = 0 := by
  unfold ordR at h ⊢
  split at h
  · cases h
  · rename_i h1
    split at h
    · cases h
    · rename_i h2
      split at h
      · cases h
      · rename_i h3
        split at h
        · cases h
        · rename_i h4
          split at h
          · rename_i h5; exact absurd h h5
          · rename_i h5
            rw [if_neg h1, if_neg h2, if_neg h3, if_neg h4, if_neg h5]
            exact ⟨Decidable.not_not.1 h1, Decidable.not_not.1 h4, rfl, Decidable.not_not.1 h5⟩
def putR (H : Hs) (who : Int) (o : Oo) : Int × Hs :=
  if ¬ ((ordR H.g who o).2 = 0) then ((ordR H.g who o).2, H)
  else if freeL H.l who (bndT o.g (ordR H.g who o).1) < bndN (ordR H.g who o).1 then (61, H)
  else if ¬ (((H.book o.g.toNat).put (ordR H.g who o).1).1 = 0) then (((H.book o.g.toNat).put (ordR H.g who o).1).1, H)
  else (0, { H with l := bindL H.g H.l who (bndT o.g (ordR H.g who o).1) (bndN (ordR H.g who o).1), ms := H.ms.set o.g.toNat ((H.book o.g.toNat).put (ordR H.g who o).1).2 })
theorem put_same {B : Cal.Bo} {x : Cal.Od} (h : ¬ (B.put x).1 = 0) : (B.put x).2 = B := by
  unfold Cal.Bo.put at h ⊢
  split
  · rfl
  · split
    · rfl
    · split
      · rfl
      · rename_i h1 h2 h3
        rw [if_neg h1, if_neg h2, if_neg h3] at h
        exact absurd rfl h
theorem set_sameO {α : Type} {l : List α} {i : Nat} {a : α} (h : l[i]? = some a) : l.set i a = l := by
  obtain ⟨h1, h2⟩ := List.getElem?_eq_some_iff.1 h
  rw [← h2]
  exact List.set_getElem_self h1
theorem Hs.same {H : Hs} {i : Nat} {B : Cal.Bo} (h : H.ms[i]? = some B) : { H with ms := H.ms.set i B } = H := by
  obtain ⟨g, l, ms, ss, now⟩ := H
  simp only [Hs.mk.injEq, true_and, and_true]
  exact set_sameO h

set_option maxRecDepth 100000 in
set_option maxHeartbeats 4000000 in
theorem put_hs (w : World) {X : Ad} {H : Hs} (h : Hm w base X H) (hB : base ≤ w.heap.size) (who : Int) (hw0 : 0 ≤ who) (hw1 : who < H.l.length) (o : Oo) (ho : o.good) (hpr : (Quo.ticksR o.pr 6).2 = 0 → 0 ≤ (Quo.ticksR o.pr 6).1 ∧ (Quo.ticksR o.pr 6).1 ≤ 1099511627776) :
    Calls Tryz.prog 61 #[.pointer (some ⟨X.p, 0, none⟩), .int .i64 who, o.val] w (Deed base X w (putR H who o)) := by
  have hlen := h.ha.lg.inv.len
  have hg4 := h.ha.lg.inv.g4
  obtain ⟨W0, hW0, O0, B0⟩ : ∃ W0, (w.alloc (.cells #[.int .i64 o.k, .int .i64 o.g, .int .i64 o.a, .int .i64 o.d, .int .i64 o.i, .float .f64 o.pr] 39)) = W0 ∧ Blk W0 w.heap.size #[.int .i64 o.k, .int .i64 o.g, .int .i64 o.a, .int .i64 o.d, .int .i64 o.i, .float .f64 o.pr] 39 ∧ Below w.heap.size w W0 := ⟨_, rfl, blk_new _ _ _ _ rfl, by go_grown⟩
  have a0 : W0.cell? ⟨w.heap.size, 0, none⟩ = some (.int .i64 o.k) := O0.cell rfl
  have a1 : W0.cell? ⟨w.heap.size, 1, none⟩ = some (.int .i64 o.g) := O0.cell rfl
  have a2 : W0.cell? ⟨w.heap.size, 2, none⟩ = some (.int .i64 o.a) := O0.cell rfl
  have a3 : W0.cell? ⟨w.heap.size, 3, none⟩ = some (.int .i64 o.d) := O0.cell rfl
  have a4 : W0.cell? ⟨w.heap.size, 4, none⟩ = some (.int .i64 o.i) := O0.cell rfl
  have a5 : W0.cell? ⟨w.heap.size, 5, none⟩ = some (.float .f64 o.pr) := O0.cell rfl
  have HOr : Hid _ := orderOf_hs W0 (h.below B0).ha who hw0 (by omega) o ho
  have HH : Hid _ := h
  have HB0 : Hid _ := B0
  have HO0 : Hid _ := O0
  obtain ⟨R, hR⟩ : ∃ R, putR H who o = R := ⟨_, rfl⟩
  rw [hR]
  unfold putR at hR
  have HOK : Hid ((ordR H.g who o).2 = 0 → _) := ordR_ok
  have HPR : Hid _ := hpr
  obtain ⟨x, ec, hxe⟩ : ∃ x ec, ordR H.g who o = (x, ec) := ⟨_, _, rfl⟩
  rw [hxe] at HOr hR HOK
  simp only at HOr hR HOK
  unfold Oo.val at HOr ⊢
  clear h B0 O0 hxe hpr ho
  have HR : Hid _ := hR
  clear hR
  obtain ⟨ok, og, oa, od, oi, opr⟩ := o
  simp only at HOr HR HOK a0 a1 a2 a3 a4 a5 hW0 HO0 HPR ⊢
  go_enter Tryz.func61, Tryz.ntmps61
  go_wp2_with fail
  refine Calls.mono HOr.out ?_
  rintro e w1 ⟨rfl, b1⟩
  obtain ⟨W2, hW2, X2, B2⟩ : ∃ W2, (w1.alloc (.cells #[.int .i64 0, .int .i64 0, .int .i64 0, .int .i64 0, .int .i64 0, .bool false] 51)) = W2 ∧ Blk W2 w1.heap.size (Cal.oC zOd).toArray 51 ∧ Below w1.heap.size w1 W2 := ⟨_, rfl, blk_new _ _ _ _ rfl, by go_grown⟩
  obtain ⟨W3, hW3, X3, B3⟩ : ∃ W3, W2.setRow w1.heap.size (Cal.oC x).toArray = W3 ∧ Blk W3 w1.heap.size (Cal.oC x).toArray 51 ∧ Below w1.heap.size w1 W3 := ⟨_, rfl, Blk.setRow X2 _, below_setRow B2 _ _ (Nat.le_refl _)⟩
  have z1 := b1.size
  have z0 := HB0.out.size
  have HB3 : Hid (Below W0.heap.size W0 W3) := b1.trans (B3.mono z1)
  have HX3 : Hid _ := X3
  have X2' := X2
  have XR := X3
  clear X2 B2 X3 B3 b1 a0 a2 a3 a4 a5
  have HBW : Hid (Below w.heap.size w W3) := HB0.out.trans (HB3.out.mono z0)
  have e1 : W3.cell? ⟨w.heap.size, 1, none⟩ = some (.int .i64 og) := (HB3.out.cell (p := ⟨w.heap.size, 1, none⟩) (World.block_lt_of_cell? _ _ a1)).trans a1
  clear a1
  have hun := Tryz.underlying51
  have h6 := Cal.infoO6 x
  by_cases hec : ec = 0
  · subst hec
    obtain ⟨⟨g0, g1⟩, ⟨am0, am1⟩, hxx, htk⟩ := HOK.out rfl
    have hR1 := HR.out
    rw [if_neg (fun h => h rfl)] at hR1
    have HR1 : Hid _ := hR1
    obtain ⟨i, rfl⟩ := Int.eq_ofNat_of_zero_le g0
    have hpr : 0 ≤ x.pr ∧ x.pr ≤ 1099511627776 := by
      have := HPR.out htk
      rw [hxx]; exact this
    have ham : 1 ≤ x.am ∧ x.am ≤ 1048576 := by rw [hxx]; exact ⟨am0, am1⟩
    have hmb := mul_bd (a := x.pr) (f := x.am) (by omega) hpr.2 (by omega) ham.2
    have hm0 : 0 ≤ x.pr * x.am := Int.mul_nonneg hpr.1 (by omega)
    have hwr : IntKind.i64.wrap (x.pr * x.am) = x.pr * x.am := by rw [IntKind.wrap_i64]; omega
    have HBi : Hid _ := fun wx => binds_hs (i : Int) x wx hwr
    have hth : bndT (i : Int) x = -1 ∨ 0 ≤ bndT (i : Int) x ∧ bndT (i : Int) x < 4 := by
      unfold bndT; split
      · exact Or.inl rfl
      · exact Or.inr ⟨by omega, by omega⟩
    have hbn : 0 ≤ bndN x ∧ bndN x ≤ 1152921504606846976 := by unfold bndN; split <;> omega
    have hml : i < H.ms.length := by rw [HH.out.mks.nm]; omega
    obtain ⟨B, hBk⟩ : ∃ B, H.ms[i]? = some B := ⟨H.ms[i], by simp [hml]⟩
    obtain ⟨b, hb⟩ := get_both hBk (HH.out.mks.nb.trans HH.out.mks.nm.symm)
    have hbook : H.book (i : Int).toNat = B := by unfold Hs.book; rw [Int.toNat_natCast, hBk]; rfl
    rw [hbook, Int.toNat_natCast] at HR1
    obtain ⟨th, hth1⟩ : ∃ th, bndT (i : Int) x = th := ⟨_, rfl⟩
    obtain ⟨nn, hnn1⟩ : ∃ nn, bndN x = nn := ⟨_, rfl⟩
    rw [hth1] at hth HR1
    rw [hnn1] at hbn HR1
    rw [hth1, hnn1] at HBi
    have HBk : Hid _ := hBk
    have Hb : Hid _ := hb
    have hii : (i : Int) < (H.g : Int) := by omega
    clear hxx htk hR1 hmb hm0 hwr hbook hml hBk hb hth1 hnn1 HR HOK HPR
    go_wp2_with (first | ((with_reducible refine st_row (ty := 51) (cs' := (Cal.oC x).toArray) X2' (Cal.infoO6 _) (Cal.oCA_same _ _) (Cal.oCA_one _) hW3 ?_ ?_ ?_); rfl; rfl) | ((with_reducible refine rd_row (ty := 51) XR hun rfl h6 ?_ ?_); rfl))
    refine (HBi.out _).mono ?_
    rintro e w4 ⟨rfl, b4⟩
    have HB4 : Hid (Below w.heap.size w w4) := HBW.out.trans (b4.mono HBW.out.size)
    have HFr : Hid _ := free_hs w4 (HH.out.below HB4.out).ha who th hw0 hw1 hth
    have HX4 : Hid _ := XR.below b4
    have f1 : w4.cell? ⟨w.heap.size, 1, none⟩ = some (.int .i64 i) := (b4.cell (p := ⟨w.heap.size, 1, none⟩) (World.block_lt_of_cell? _ _ e1)).trans e1
    clear e1 XR X2' hW3 b4
    go_wp2_with fail
    refine Calls.mono HFr.out ?_
    rintro e w5 ⟨rfl, b5⟩
    have HB5 : Hid (Below w.heap.size w w5) := HB4.out.trans (b5.mono HB4.out.size)
    have H5 : Hid _ := HH.out.below HB5.out
    have X5 : Hid (Blk w5 w1.heap.size (Cal.oC x).toArray 51) := Blk.below HX4.out b5
    have g1' : w5.cell? ⟨w.heap.size, 1, none⟩ = some (.int .i64 i) := (b5.cell (p := ⟨w.heap.size, 1, none⟩) (World.block_lt_of_cell? _ _ f1)).trans f1
    clear f1 b5 HFr
    generalize freeL H.l who th = fr at *
    by_cases hfp : fr < nn
    · have hd : decide (fr < nn) = true := decide_eq_true hfp
      have hR2 := HR1.out
      rw [if_pos hfp] at hR2
      subst hR2
      clear hfp
      go_wp2
      go_ret
      exact ⟨rfl, X, H5.out, Hst.of_below HB5.out, rfl⟩
    · have hd : decide (fr < nn) = false := decide_eq_false hfp
      have hR2 := HR1.out
      rw [if_neg hfp] at hR2
      have HR2 : Hid _ := hR2
      clear hfp hR2 HR1
      have hkb := H5.out.mks.bk i b B Hb.out HBk.out
      have hkb0 := HH.out.mks.bk i b B Hb.out HBk.out
      obtain ⟨cs, hr, hr2⟩ := H5.out.mks.row
      have c2 : w5.cell? ⟨X.p, 2, none⟩ = some (.slice (some ⟨X.qm, 0, none⟩) H.g X.cm) := H5.out.ha.blk.cell rfl
      have cq : w5.cell? ⟨X.qm, i, none⟩ = some (.pointer (some ⟨b.1, 0, none⟩)) := hr.cell (hr2 i b Hb.out)
      have n1 : ¬ (X.p = b.1 ∨ b.2.ownBlock = some X.p) := Elsw.book hkb (ts := [62]) (by decide) (by decide) _ _ _ H5.out.ha.blk (by simp)
      have n2 : ¬ (X.qm = b.1 ∨ b.2.ownBlock = some X.qm) := Elsw.book hkb (ts := [72]) (by decide) (by decide) _ _ _ hr (by simp)
      have n3 : ¬ (w.heap.size = b.1 ∨ b.2.ownBlock = some w.heap.size) := by
        intro e; rcases e with e | e
        · have := hkb0.blk.lt; omega
        · have := (hkb0.row.lt _ e).2; omega
      have n4 : ¬ (w1.heap.size = b.1 ∨ b.2.ownBlock = some w1.heap.size) := by
        intro e; rcases e with e | e
        · have := hkb0.blk.lt; omega
        · have := (hkb0.row.lt _ e).2; omega
      have q0 : w5.cell? ⟨w1.heap.size, 0, none⟩ = some (.int .i64 x.id) := Blk.cell X5.out rfl
      have q1 : w5.cell? ⟨w1.heap.size, 1, none⟩ = some (.int .i64 x.own) := Blk.cell X5.out rfl
      have q2 : w5.cell? ⟨w1.heap.size, 2, none⟩ = some (.int .i64 x.pr) := Blk.cell X5.out rfl
      have q3 : w5.cell? ⟨w1.heap.size, 3, none⟩ = some (.int .i64 x.am) := Blk.cell X5.out rfl
      have q4 : w5.cell? ⟨w1.heap.size, 4, none⟩ = some (.int .i64 x.pl) := Blk.cell X5.out rfl
      have q5 : w5.cell? ⟨w1.heap.size, 5, none⟩ = some (.bool x.by) := Blk.cell X5.out rfl
      obtain ⟨rp, hrp⟩ : ∃ rp, B.put x = rp := ⟨_, rfl⟩
      have HPt : Hid _ := Cal.put_calls x w5.drew (hkb.below ((Below.refl _ _).drew)) (Nat.le_trans hB HB5.out.size) rp hrp
      have HRP : Hid _ := hrp
      have H5b := HB5.out.size
      clear hr hr2 hkb hkb0 hrp
      go_upto_region 7 with fail
      refine wp_region_held_drew (S := (fun wx => Chg (fun k => k = b.1 ∨ b.2.ownBlock = some k) w5 wx)) (by kernel_rfl) (Chg.of_below (Below.refl w5.heap.size w5) : Chg (fun k => k = b.1 ∨ b.2.ownBlock = some k) w5 w5).drew (fun hS => ?_)
      refine tkG (i := 0) (v := .pointer (some ⟨X.p, 0, none⟩)) rfl hS ?_
      refine tkG (i := 1) (v := .pointer (some ⟨X.p, 0, none⟩)) rfl hS ?_
      refine tkG (i := 2) (v := .pointer (some ⟨X.p, 2, none⟩)) rfl hS ?_
      refine tkH (i := 3) (v := .slice (some ⟨X.qm, 0, none⟩) H.g X.cm) rfl (fun w3 hS => by have k2 : w3.cell? ⟨X.p, 2, none⟩ = some (.slice (some ⟨X.qm, 0, none⟩) H.g X.cm) := Chg.cell hS c2 n1; have kq : w3.cell? ⟨X.qm, i, none⟩ = some (.pointer (some ⟨b.1, 0, none⟩)) := Chg.cell hS cq n2; have kg : w3.cell? ⟨w.heap.size, 1, none⟩ = some (.int .i64 i) := Chg.cell hS g1' n3; have k0 := Chg.cell hS q0 n4; have k1 := Chg.cell hS q1 n4; have kk2 := Chg.cell hS q2 n4; have k3 := Chg.cell hS q3 n4; have k4 := Chg.cell hS q4 n4; have k5 := Chg.cell hS q5 n4; go_simp) hS ?_
      refine tkG (i := 4) (v := .pointer (some ⟨w.heap.size, 1, none⟩)) rfl hS ?_
      refine tkH (i := 5) (v := .int .i64 i) rfl (fun w3 hS => by have k2 : w3.cell? ⟨X.p, 2, none⟩ = some (.slice (some ⟨X.qm, 0, none⟩) H.g X.cm) := Chg.cell hS c2 n1; have kq : w3.cell? ⟨X.qm, i, none⟩ = some (.pointer (some ⟨b.1, 0, none⟩)) := Chg.cell hS cq n2; have kg : w3.cell? ⟨w.heap.size, 1, none⟩ = some (.int .i64 i) := Chg.cell hS g1' n3; have k0 := Chg.cell hS q0 n4; have k1 := Chg.cell hS q1 n4; have kk2 := Chg.cell hS q2 n4; have k3 := Chg.cell hS q3 n4; have k4 := Chg.cell hS q4 n4; have k5 := Chg.cell hS q5 n4; go_simp) hS ?_
      refine tkH (i := 6) (v := .pointer (some ⟨X.qm, i, none⟩)) rfl (fun w3 hS => by have k2 : w3.cell? ⟨X.p, 2, none⟩ = some (.slice (some ⟨X.qm, 0, none⟩) H.g X.cm) := Chg.cell hS c2 n1; have kq : w3.cell? ⟨X.qm, i, none⟩ = some (.pointer (some ⟨b.1, 0, none⟩)) := Chg.cell hS cq n2; have kg : w3.cell? ⟨w.heap.size, 1, none⟩ = some (.int .i64 i) := Chg.cell hS g1' n3; have k0 := Chg.cell hS q0 n4; have k1 := Chg.cell hS q1 n4; have kk2 := Chg.cell hS q2 n4; have k3 := Chg.cell hS q3 n4; have k4 := Chg.cell hS q4 n4; have k5 := Chg.cell hS q5 n4; go_simp) hS ?_
      refine tkH (i := 7) (v := .pointer (some ⟨b.1, 0, none⟩)) rfl (fun w3 hS => by have k2 : w3.cell? ⟨X.p, 2, none⟩ = some (.slice (some ⟨X.qm, 0, none⟩) H.g X.cm) := Chg.cell hS c2 n1; have kq : w3.cell? ⟨X.qm, i, none⟩ = some (.pointer (some ⟨b.1, 0, none⟩)) := Chg.cell hS cq n2; have kg : w3.cell? ⟨w.heap.size, 1, none⟩ = some (.int .i64 i) := Chg.cell hS g1' n3; have k0 := Chg.cell hS q0 n4; have k1 := Chg.cell hS q1 n4; have kk2 := Chg.cell hS q2 n4; have k3 := Chg.cell hS q3 n4; have k4 := Chg.cell hS q4 n4; have k5 := Chg.cell hS q5 n4; go_simp) hS ?_
      refine tkH (i := 8) (v := .agg (Cal.oC x).toArray) rfl (fun w3 hS => by have k2 : w3.cell? ⟨X.p, 2, none⟩ = some (.slice (some ⟨X.qm, 0, none⟩) H.g X.cm) := Chg.cell hS c2 n1; have kq : w3.cell? ⟨X.qm, i, none⟩ = some (.pointer (some ⟨b.1, 0, none⟩)) := Chg.cell hS cq n2; have kg : w3.cell? ⟨w.heap.size, 1, none⟩ = some (.int .i64 i) := Chg.cell hS g1' n3; have k0 := Chg.cell hS q0 n4; have k1 := Chg.cell hS q1 n4; have kk2 := Chg.cell hS q2 n4; have k3 := Chg.cell hS q3 n4; have k4 := Chg.cell hS q4 n4; have k5 := Chg.cell hS q5 n4; go_simp; first | done | rfl) hS ?_
      refine wpAnyH_ready (rs := [9]) (by kernel_rfl) (by simp) ?_
      refine AllReadyH.cons rfl (fun K hK => ?_) AllReadyH.nil
      go_simp
      refine Calls.mono HPt.out ?_
      rintro e w6 ⟨rfl, v', ST0⟩
      have ST : Cal.Bst w5 w6 base b.1 b.2 v' rp.2 := Cal.Bst.first ((Below.refl _ _).drew) ST0
      have hC6 : Chg (fun k => k = b.1 ∨ b.2.ownBlock = some k) w5 w6 := Chg.of_ofb ST.of (Or.inl rfl) (fun k hk => Or.inr hk)
      refine hK.out _ _ hC6 (fun hS => ?_)
      clear hK
      refine tkG (i := 10) (v := .int .i64 rp.1) rfl hS ?_
      refine wpAnyH_done (by kernel_rfl) ?_ _
      have HM6 : Hid _ := H5.out.mkt Hb.out ST
      have H06 : Hid (Hst w w6 X { X with bs := X.bs.set i (b.1, v') }) := (Hst.of_below HB5.out).trans HM6.out.2
      clear ST ST0 hC6 HPt q0 q1 q2 q3 q4 q5 n1 n2 n3 n4 c2 cq g1'
      obtain ⟨rc, rB⟩ := rp
      by_cases hrc : rc = 0
      · have hR3 := HR2.out
        rw [HRP.out] at hR3
        simp only at hR3
        rw [if_neg (fun h => h hrc)] at hR3
        subst hR3
        subst hrc
        have HBd : Hid _ := bind_hs w6 HM6.out.1.ha who th nn (by omega) (by omega)
        go_wp2_with fail
        refine Calls.mono HBd.out ?_
        rintro e w7 ⟨rfl, L7, o7⟩
        have C7 : Chg (fun k => k = X.bl) w6 w7 := Chg.of_off o7 rfl
        have HF := HM6.out.1.acc (Ha.wide HM6.out.1.ha L7 C7 (bindL_len _ _ _ _ _)) C7 (bindL_len _ _ _ _ _)
        have HFF : Hid _ := HF
        clear HF L7 o7 C7
        go_wp2
        go_ret
        exact ⟨rfl, _, HFF.out.1, H06.out.trans HFF.out.2, rfl⟩
      · have hR3 := HR2.out
        have hps : rB = B := by have h1 := put_same (B := B) (x := x) (by rw [HRP.out]; exact hrc); rw [HRP.out] at h1; exact h1
        rw [HRP.out] at hR3
        simp only at hR3
        rw [if_pos hrc] at hR3
        subst hR3
        have hdc : (rc == 0) = false := by simpa using hrc
        have HFF : Hid (Hm w6 base { X with bs := X.bs.set i (b.1, v') } H) := by
          have h1 := HM6.out.1
          simp only [hps] at h1
          rw [Hs.same HBk.out] at h1
          exact h1
        clear hrc hps
        go_wp2
        go_ret
        exact ⟨rfl, _, HFF.out, H06.out, rfl⟩
  · have hR1 := HR.out
    rw [if_pos hec] at hR1
    subst hR1
    have hdc : (ec == 0) = false := by simpa using hec
    clear hec
    go_wp2_with ((with_reducible refine st_row (ty := 51) (cs' := (Cal.oC x).toArray) X2' (Cal.infoO6 _) (Cal.oCA_same _ _) (Cal.oCA_one _) hW3 ?_ ?_ ?_); rfl; rfl)
    go_ret
    exact ⟨rfl, X, HH.out.below HBW.out, Hst.of_below HBW.out, rfl⟩
end Go.Proofs.YtpekfpfhonechaaGreat

namespace Go.Proofs.YtpekfpfhonechaaGreat
open Go.RowKit
set_option linter.unusedSimpArgs false
set_option linter.unusedVariables false
variable {base : Nat}

def clr1 (H : Hs) (i : Nat) : Hs := { H with l := clrL H.g i H.l (H.book i), ms := H.ms.set i (H.book i).clr }
/-- A good's turn: its market is cleared, then the round of its auction ends, if there is one. -/
def tick1 (E : Hs → Nat → Hs) (H : Hs) (i : Nat) : Hs :=
  match H.ss[i]? with
  | some (some _) => E (clr1 H i) i
  | _ => clr1 H i
def tickN (E : Hs → Nat → Hs) (H : Hs) : Nat → Hs
  | 0 => H
  | k + 1 => tick1 E (tickN E H k) k
def tickR (E : Hs → Nat → Hs) (H : Hs) : Int × Hs := if H.now = 9007199254740992 then (2, H) else (0, tickN E { H with now := H.now + 1 } H.g)
theorem clr1_g (H : Hs) (i : Nat) : (clr1 H i).g = H.g := rfl
theorem tickN_succ (E : Hs → Nat → Hs) (H : Hs) (k : Nat) : tickN E H (k + 1) = tick1 E (tickN E H k) k := rfl
theorem tick1_g {E : Hs → Nat → Hs} (hE : ∀ H i, (E H i).g = H.g) (H : Hs) (i : Nat) : (tick1 E H i).g = H.g := by
  unfold tick1
  split
  · rw [hE, clr1_g]
  · rw [clr1_g]
theorem tickN_g {E : Hs → Nat → Hs} (hE : ∀ H i, (E H i).g = H.g) (H : Hs) : ∀ k, (tickN E H k).g = H.g
  | 0 => rfl
  | k + 1 => by rw [tickN_succ, tick1_g hE, tickN_g hE H k]
theorem Hm.setNow {w : World} {X : Ad} {H : Hs} (h : Hm w base X H) (n : Int) (hn : 0 ≤ n ∧ n ≤ 9007199254740992) : Hm (w.setCell ⟨X.p, 4, none⟩ (.int .i64 n)) base X { H with now := n } ∧ Hst w (w.setCell ⟨X.p, 4, none⟩ (.int .i64 n)) X X := by
  have c : Chg (fun k => k = X.p) w (w.setCell ⟨X.p, 4, none⟩ (.int .i64 n)) := ⟨rfl, rfl, rfl, by simp [World.setCell], fun k hk hn => Below.heap_setCell _ _ _ _ (fun e => hn e)⟩
  have hp := h.ha.blk
  refine ⟨⟨⟨?_, h.ha.lg.chg c (fun e => blk_unl h.ha.lg.blk hp (by decide) e) (fun e => blk_unl h.ha.lg.row hp (by decide) e)⟩, h.mks.chg c (Elsw.one hp (by decide)), h.sls.chg c (Elsw.one hp (by decide)), h.b0, hn, h.ds⟩,
    ⟨c.os, c.tape, c.output, c.size, fun k hk hn => c.block k hk (fun e => hn (Or.inl e))⟩, fun k hk => Or.inl hk⟩
  exact hp.set 4 _
set_option maxRecDepth 100000 in
set_option maxHeartbeats 4000000 in
theorem tick_hs (E : Hs → Nat → Hs) (P : Hs → Prop) (hP1 : ∀ H n, P H → P { H with now := n }) (hP2 : ∀ H i, P H → P (clr1 H i)) (hP3 : ∀ H i, P H → P (E H i)) (hE : ∀ H i, (E H i).g = H.g)
    (HE : ∀ (wx : World) (X : Ad) (H : Hs) (i : Nat) (a : Clo.Au × Int), Hm wx base X H → base ≤ wx.heap.size → i < H.g → P H → H.ss[i]? = some (some a) → Calls Tryz.prog 69 #[.pointer (some ⟨X.p, 0, none⟩), .int .i64 i] wx fun e w' => e = .returned (.tuple #[]) ∧ ∃ X', Hm w' base X' (E H i) ∧ Hst wx w' X X' ∧ X'.p = X.p)
    (w : World) {X : Ad} {H : Hs} (h : Hm w base X H) (hB : base ≤ w.heap.size) (hp : P H) (who : Int) (o : Oo) :
    Calls Tryz.prog 54 #[.pointer (some ⟨X.p, 0, none⟩), .int .i64 who, o.val] w (Deed base X w (tickR E H)) := by
  obtain ⟨W0, hW0, B0⟩ : ∃ W0, (w.alloc (.cells #[.int .i64 o.k, .int .i64 o.g, .int .i64 o.a, .int .i64 o.d, .int .i64 o.i, .float .f64 o.pr] 39)) = W0 ∧ Below w.heap.size w W0 := ⟨_, rfl, by go_grown⟩
  have h0 := h.below B0
  have c4 : W0.cell? ⟨X.p, 4, none⟩ = some (.int .i64 H.now) := h0.ha.blk.cell rfl
  have hg4 := h.ha.lg.inv.g4
  have hn0 := h.n0
  have HH0 : Hid _ := h0
  have HB0 : Hid _ := B0
  have HEE : Hid _ := HE
  have fr : W0.frozen? ⟨X.p, 4, none⟩ = false := h0.ha.blk.frozen
  obtain ⟨R, hR⟩ : ∃ R, tickR E H = R := ⟨_, rfl⟩
  rw [hR]
  unfold tickR at hR
  unfold Oo.val
  clear h h0 HE B0
  by_cases hm : H.now = 9007199254740992
  · rw [if_pos hm] at hR
    subst hR
    have hd : (H.now == 9007199254740992) = true := by simpa using hm
    clear hm
    go_enter Tryz.func54, Tryz.ntmps54
    go_wp2
    go_ret
    exact ⟨rfl, X, HH0.out, Hst.of_below HB0.out, rfl⟩
  · rw [if_neg hm] at hR
    have hd : (H.now == 9007199254740992) = false := by simpa using hm
    have hlt : H.now + 1 ≤ 9007199254740992 := by omega
    have HS := HH0.out.setNow (H.now + 1) ⟨by omega, hlt⟩
    obtain ⟨W1, hW1, M1, T1⟩ : ∃ W1, W0.setCell ⟨X.p, 4, none⟩ (.int .i64 (H.now + 1)) = W1 ∧ Hm W1 base X { H with now := H.now + 1 } ∧ Hst W0 W1 X X := ⟨_, rfl, HS.1, HS.2⟩
    have c2 : W1.cell? ⟨X.p, 2, none⟩ = some (.slice (some ⟨X.qm, 0, none⟩) H.g X.cm) := M1.ha.blk.cell rfl
    have HR : Hid _ := hR
    have HI : Hid (∃ X', Hm W1 base X' (tickN E { H with now := H.now + 1 } 0) ∧ Hst w W1 X X' ∧ X'.p = X.p ∧ P (tickN E { H with now := H.now + 1 } 0)) := ⟨X, M1, (Hst.of_below HB0.out).trans T1, rfl, hP1 _ _ hp⟩
    obtain ⟨G, hG⟩ : ∃ G : Hs, ({ H with now := H.now + 1 } : Hs) = G := ⟨_, rfl⟩
    have hGg : G.g = H.g := by rw [← hG]
    rw [hG] at HI HR
    have HGg : Hid _ := hGg
    clear M1 T1 HS hm hR hG hGg hp
    go_enter Tryz.func54, Tryz.ntmps54
    go_wp2_with fail
    go_loopw [25] (fun iv wr => ∃ k : Nat, k ≤ H.g ∧ iv = .int .i64 k ∧ Hid (∃ X', Hm wr base X' (tickN E G k) ∧ Hst w wr X X' ∧ X'.p = X.p ∧ P (tickN E G k))) (fun iv _ => H.g - (intOf iv).toNat)
    case atStart => exact ⟨0, Nat.zero_le _, rfl, HI⟩
    case round =>
      clear HI c2 hW1 fr c4
      obtain ⟨k, hk, rfl, HRl⟩ := hrel
      by_cases hkl : k < H.g
      · have hd1 : decide ((k : Int) < (H.g : Int)) = true := by simp only [decide_eq_true_eq]; omega
        have hkl' : (k : Int) < (H.g : Int) := by omega
        obtain ⟨⟨xp, xpl, xbl, xqm, xcm, xqs, xbs, xsl⟩, m1, t1, p1, pp1⟩ := HRl.out
        simp only at p1
        subst xp
        have hg1 : (tickN E G k).g = H.g := (tickN_g hE G k).trans HGg.out
        have HT : Hid (tickN E G (k + 1) = tick1 E (tickN E G k) k) := rfl
        generalize tickN E G k = K at *
        have hml : k < K.ms.length := by rw [m1.mks.nm]; omega
        obtain ⟨B, hBk⟩ : ∃ B, K.ms[k]? = some B := ⟨K.ms[k], by simp [hml]⟩
        obtain ⟨b, hb⟩ := get_both hBk (m1.mks.nb.trans m1.mks.nm.symm)
        have hbook : K.book k = B := by unfold Hs.book; rw [hBk]; rfl
        have hzr := t1.chg.size
        have HCl : Hid _ := clear_hs wr m1 (Nat.le_trans hB hzr) k (by omega) hBk hb
        have hc1 : clr1 K k = { K with l := clrL K.g k K.l B, ms := K.ms.set k B.clr } := by unfold clr1; rw [hbook]
        have hsl : k < K.ss.length := by rw [m1.sls.nn]; omega
        obtain ⟨sk, hsk⟩ : ∃ sk, K.ss[k]? = some sk := ⟨K.ss[k], by simp [hsl]⟩
        have HX : Hid (Hst w wr X (⟨X.p, xpl, xbl, xqm, xcm, xqs, xbs, xsl⟩ : Ad) ∧ P K ∧ K.g = H.g ∧ K.ss[k]? = some sk ∧ clr1 K k = { K with l := clrL K.g k K.l B, ms := K.ms.set k B.clr }) := ⟨t1, pp1, hg1, hsk, hc1⟩
        clear m1 t1 pp1 hg1 hsk hc1 hml hBk hb hbook hsl HRl
        go_wp2_with fail
        refine Calls.mono HCl.out ?_
        rintro e w2 ⟨rfl, v', m2, t2⟩
        obtain ⟨t1, pp1, hg1, hsk, hc1⟩ := HX.out
        have m2' : Hm w2 base (⟨X.p, xpl, xbl, xqm, xcm, xqs, xbs.set k (b.1, v'), xsl⟩ : Ad) (clr1 K k) := by rw [hc1]; exact m2
        have t02 := t1.trans t2
        have hz2 := t02.chg.size
        have c3 : w2.cell? ⟨X.p, 3, none⟩ = some (.slice (some ⟨xqs, 0, none⟩) H.g H.g) := by
          have h3 : w2.cell? ⟨X.p, 3, none⟩ = some (.slice (some ⟨xqs, 0, none⟩) K.g K.g) := m2'.ha.blk.cell rfl
          rw [hg1] at h3
          exact h3
        have hgg : (clr1 K k).g = H.g := hg1
        have hss : (clr1 K k).ss[k]? = some sk := hsk
        obtain ⟨ak, hak⟩ := get_both hss (m2'.sls.ns.trans m2'.sls.nn.symm)
        have cs : w2.cell? ⟨xqs, k, none⟩ = some (ptrS ak) := m2'.sls.row.cell (by simp; exact ⟨ak, hak, rfl⟩)
        have hnon : (ak = none ↔ sk = none) := by
          have := m2'.sls.non k
          simp only at hak
          rw [hak, hss] at this
          simpa using this
        have HM2 : Hid _ := m2'
        have HT2 : Hid _ := t02
        cases sk with
        | none =>
          obtain rfl := hnon.2 rfl
          have HF : Hid (∃ X', Hm w2 base X' (tickN E G (k + 1)) ∧ Hst w w2 X X' ∧ X'.p = X.p ∧ P (tickN E G (k + 1))) := by
            show _
            have e1 : tickN E G (k + 1) = clr1 K k := by
              rw [HT.out]; unfold tick1; rw [hsk]
            rw [e1]
            exact ⟨_, m2', t02, rfl, hP2 _ _ pp1⟩
          unfold ptrS at cs
          simp only [Option.map_none] at cs
          clear HCl hss hsk hc1 m2 m2' t2 t02 t1 hak hnon HX HM2 HT2 HT pp1
          go_wp2
          exact ⟨⟨k + 1, by omega, by norm_cast, HF⟩, by simp [intOf]; omega⟩
        | some a =>
          cases ak with
          | none => have := hnon.1 rfl; cases this
          | some ad =>
            have HEr : Hid _ := HEE.out w2 (⟨X.p, xpl, xbl, xqm, xcm, xqs, xbs.set k (b.1, v'), xsl⟩ : Ad) (clr1 K k) k a m2' (Nat.le_trans hB hz2) (by omega) (hP2 _ _ pp1) hss
            have HTT : Hid (tickN E G (k + 1) = E (clr1 K k) k ∧ P (E (clr1 K k) k)) := by
              refine ⟨?_, hP3 _ _ (hP2 _ _ pp1)⟩
              rw [HT.out]; unfold tick1; rw [hsk]
            unfold ptrS at cs
            simp only [Option.map_some] at cs
            clear HCl hss hsk hc1 m2 m2' t2 t02 t1 hak hnon HX HM2 HT pp1
            go_wp2_with fail
            refine Calls.mono HEr.out ?_
            rintro e w3 ⟨rfl, X3, m3, t3, p3⟩
            have HF : Hid (∃ X', Hm w3 base X' (tickN E G (k + 1)) ∧ Hst w w3 X X' ∧ X'.p = X.p ∧ P (tickN E G (k + 1))) := by
              show _
              rw [HTT.out.1]
              exact ⟨X3, m3, HT2.out.trans t3, p3, HTT.out.2⟩
            clear m3 t3 p3 HEr cs c3
            go_wp2
            exact ⟨⟨k + 1, by omega, by norm_cast, HF⟩, by simp [intOf]; omega⟩
      · have hd1 : decide ((k : Int) < (H.g : Int)) = false := by simp only [decide_eq_false_iff_not]; omega
        obtain rfl : k = H.g := by omega
        have hr := HR.out
        subst hr
        go_wp2
        go_ret
        obtain ⟨X1, m1, t1, p1, pp1⟩ := HRl.out
        exact ⟨rfl, X1, m1, t1, p1⟩
end Go.Proofs.YtpekfpfhonechaaGreat
