/- The house: offer. -/
import Derived.Test.YtpekfpfhonechaaGreatWa39
import Derived.Test.YtpekfpfhonechaaGreatWa43
namespace Go.Proofs.YtpekfpfhonechaaGreat
open Go.RowKit
set_option linter.unusedSimpArgs false
set_option linter.unusedVariables false
variable {base : Nat}

def offerR (H : Hs) (who : Int) (o : Oo) : Int × Hs :=
  if ¬ (0 ≤ o.g ∧ o.g ≤ (H.g : Int) - 1) then (1, H)
  else if ¬ ((Quo.ticksR o.pr 6).2 = 0) then ((Quo.ticksR o.pr 6).2, H)
  else if ¬ ((1 ≤ o.a ∧ o.a ≤ 1048576) ∧ (0 ≤ (Quo.ticksR o.pr 6).1 ∧ (Quo.ticksR o.pr 6).1 ≤ 1099511627776) ∧ (1 ≤ o.d ∧ o.d ≤ 1099511627776) ∧ (1 ≤ (H.l.length : Int) ∧ (H.l.length : Int) ≤ 16)) then (1, H)
  else match H.ss[o.g.toNat]? with
  | some (some _) => (63, H)
  | _ =>
    if freeL H.l who o.g < o.a then (61, H)
    else (0, { H with l := bindL H.g H.l who o.g o.a, ss := H.ss.set o.g.toNat (some (Clo.Au.new o.a (Quo.ticksR o.pr 6).1 o.d H.l.length, who)) })
set_option maxRecDepth 100000 in
set_option maxHeartbeats 4000000 in
theorem offer_hs (w : World) {X : Ad} {H : Hs} (h : Hm w base X H) (hB : base ≤ w.heap.size) (who : Int) (hw0 : 0 ≤ who) (hw1 : who < H.l.length) (o : Oo) (ho : o.good) :
    Calls Tryz.prog 59 #[.pointer (some ⟨X.p, 0, none⟩), .int .i64 who, o.val] w (Deed base X w (offerR H who o)) := by
  have hlen := h.ha.lg.inv.len
  have hg4 := h.ha.lg.inv.g4
  obtain ⟨⟨g0, g1⟩, ⟨o0, o1⟩, ⟨s0, s1⟩, ⟨i0, i1⟩, hpr⟩ := ho
  obtain ⟨W0, hW0, O0, B0⟩ : ∃ W0, (w.alloc (.cells #[.int .i64 o.k, .int .i64 o.g, .int .i64 o.a, .int .i64 o.d, .int .i64 o.i, .float .f64 o.pr] 39)) = W0 ∧ Blk W0 w.heap.size #[.int .i64 o.k, .int .i64 o.g, .int .i64 o.a, .int .i64 o.d, .int .i64 o.i, .float .f64 o.pr] 39 ∧ Below w.heap.size w W0 := ⟨_, rfl, blk_new _ _ _ _ rfl, by go_grown⟩
  have a1 : W0.cell? ⟨w.heap.size, 1, none⟩ = some (.int .i64 o.g) := O0.cell rfl
  have a2 : W0.cell? ⟨w.heap.size, 2, none⟩ = some (.int .i64 o.a) := O0.cell rfl
  have a3 : W0.cell? ⟨w.heap.size, 3, none⟩ = some (.int .i64 o.d) := O0.cell rfl
  have a5 : W0.cell? ⟨w.heap.size, 5, none⟩ = some (.float .f64 o.pr) := O0.cell rfl
  have H0 := h.below B0
  have c0 : W0.cell? ⟨X.p, 0, none⟩ = some (.int .i64 (H.l.length : Int)) := H0.ha.blk.cell rfl
  have HHS : Hid _ := has_hs W0 H0.ha o.g
  have HTk : Hid _ := Quo.ticks_calls o.pr 6 W0 hpr
  have HH : Hid _ := h
  have HH0 : Hid _ := H0
  have HB0 : Hid _ := B0
  have HO0 : Hid _ := O0
  obtain ⟨R, hR⟩ : ∃ R, offerR H who o = R := ⟨_, rfl⟩
  rw [hR]
  unfold offerR at hR
  obtain ⟨st, ec, hte⟩ : ∃ st ec, Quo.ticksR o.pr 6 = (st, ec) := ⟨_, _, rfl⟩
  rw [hte] at hR HTk
  simp only at hR HTk
  have HR : Hid _ := hR
  unfold Oo.val
  clear h H0 O0 B0 hR hte
  obtain ⟨ok, og, oa, od, oi, opr⟩ := o
  simp only at HHS HTk HR a1 a2 a3 a5 hW0 HO0 g0 g1 o0 o1 s0 s1 ⊢
  by_cases hgd : 0 ≤ og ∧ og ≤ (H.g : Int) - 1
  · rw [decide_eq_true hgd] at HHS
    have hR1 := HR.out
    rw [if_neg (fun h => h hgd)] at hR1
    go_enter Tryz.func59, Tryz.ntmps59
    go_wp2_with fail
    refine Calls.mono HHS.out ?_
    rintro e w1 ⟨rfl, hw1'⟩
    subst w1
    go_wp2_with fail
    refine Calls.mono HTk.out ?_
    rintro e w1 ⟨rfl, hw1'⟩
    subst w1
    by_cases hec : ec = 0
    · subst hec
      rw [if_neg (fun h => h rfl)] at hR1
      have HR1 : Hid _ := hR1
      have z0 := HB0.out.size
      have hws : w.heap.size < W0.heap.size := Blk.lt HO0.out
      have hps : X.p < W0.heap.size := HH0.out.ha.blk.lt
      clear hR1 a5 HTk HHS
      go_upto_region 6 with fail
      refine wp_region_held_drew (S := (fun wx => Below W0.heap.size W0 wx)) (by kernel_rfl) ((Below.refl _ _).drew) (fun hS => ?_)
      refine tkG (i := 0) (v := .pointer (some ⟨w.heap.size, 2, none⟩)) rfl hS ?_
      refine tkH (i := 1) (v := .int .i64 oa) rfl (fun w3 hS => by have e0 : w3.cell? ⟨X.p, 0, none⟩ = some (.int .i64 (H.l.length : Int)) := (hS.cell (p := ⟨X.p, 0, none⟩) hps).trans c0; have e1 : w3.cell? ⟨w.heap.size, 2, none⟩ = some (.int .i64 oa) := (hS.cell (p := ⟨w.heap.size, 2, none⟩) hws).trans a2; have e2 : w3.cell? ⟨w.heap.size, 3, none⟩ = some (.int .i64 od) := (hS.cell (p := ⟨w.heap.size, 3, none⟩) hws).trans a3; go_simp) hS ?_
      refine tkG (i := 2) (v := .int .i64 st) rfl hS ?_
      refine tkG (i := 3) (v := .pointer (some ⟨w.heap.size, 3, none⟩)) rfl hS ?_
      refine tkH (i := 4) (v := .int .i64 od) rfl (fun w3 hS => by have e0 : w3.cell? ⟨X.p, 0, none⟩ = some (.int .i64 (H.l.length : Int)) := (hS.cell (p := ⟨X.p, 0, none⟩) hps).trans c0; have e1 : w3.cell? ⟨w.heap.size, 2, none⟩ = some (.int .i64 oa) := (hS.cell (p := ⟨w.heap.size, 2, none⟩) hws).trans a2; have e2 : w3.cell? ⟨w.heap.size, 3, none⟩ = some (.int .i64 od) := (hS.cell (p := ⟨w.heap.size, 3, none⟩) hws).trans a3; go_simp) hS ?_
      refine tkG (i := 5) (v := .pointer (some ⟨X.p, 0, none⟩)) rfl hS ?_
      refine tkG (i := 6) (v := .pointer (some ⟨X.p, 0, none⟩)) rfl hS ?_
      refine tkG (i := 7) (v := .pointer (some ⟨X.p, 0, none⟩)) rfl hS ?_
      refine tkH (i := 8) (v := .int .i64 (H.l.length : Int)) rfl (fun w3 hS => by have e0 : w3.cell? ⟨X.p, 0, none⟩ = some (.int .i64 (H.l.length : Int)) := (hS.cell (p := ⟨X.p, 0, none⟩) hps).trans c0; have e1 : w3.cell? ⟨w.heap.size, 2, none⟩ = some (.int .i64 oa) := (hS.cell (p := ⟨w.heap.size, 2, none⟩) hws).trans a2; have e2 : w3.cell? ⟨w.heap.size, 3, none⟩ = some (.int .i64 od) := (hS.cell (p := ⟨w.heap.size, 3, none⟩) hws).trans a3; go_simp) hS ?_
      refine wpAnyH_ready (rs := [9]) (by kernel_rfl) (by simp) ?_
      refine AllReadyH.cons rfl (fun K hK => ?_) AllReadyH.nil
      go_simp
      by_cases hft : (1 ≤ oa ∧ oa ≤ 1048576) ∧ (0 ≤ st ∧ st ≤ 1099511627776) ∧ (1 ≤ od ∧ od ≤ 1099511627776) ∧ (1 ≤ (H.l.length : Int) ∧ (H.l.length : Int) ≤ 16)
      · have hR2 := HR1.out
        rw [if_neg (fun h => h hft)] at hR2
        have HR2 : Hid _ := hR2
        refine Calls.mono (Clo.new_ok oa st od (H.l.length : Int) _ hft) ?_
        rintro e w2 ⟨pa, ba, rfl, L2, b2, hpa, hba⟩
        have b02 : Below W0.heap.size W0 w2 := ((Below.refl _ _).drew : Below W0.heap.size W0 W0.drew).trans b2
        refine hK.out _ _ b02 (fun hS => ?_)
        clear hK
        refine tkG (i := 10) (v := .tuple #[.pointer (some ⟨pa, 0, none⟩), .int .i64 0]) rfl hS ?_
        refine tkG (i := 11) (v := .pointer (some ⟨pa, 0, none⟩)) rfl hS ?_
        refine tkG (i := 12) (v := .int .i64 0) rfl hS ?_
        refine tkG (i := 13) (v := .pointer (some ⟨pa, 0, none⟩)) rfl hS ?_
        refine tkG (i := 14) (v := .int .i64 0) rfl hS ?_
        refine wpAnyH_done (by kernel_rfl) ?_ _
        have HL2 : Hid _ := L2
        have HB2 : Hid (Below w.heap.size w w2) := HB0.out.trans (b02.mono z0)
        have H2 : Hid _ := HH.out.below HB2.out
        obtain ⟨i, rfl⟩ := Int.eq_ofNat_of_zero_le g0
        have hii : (i : Int) < (H.g : Int) := by omega
        have hsl : i < H.ss.length := by rw [HH.out.sls.nn]; omega
        obtain ⟨sx, hsx⟩ : ∃ sx, H.ss[i]? = some sx := ⟨H.ss[i], by simp [hsl]⟩
        obtain ⟨sa, hsa⟩ := get_both hsx (HH.out.sls.ns.trans HH.out.sls.nn.symm)
        have c3 : w2.cell? ⟨X.p, 3, none⟩ = some (.slice (some ⟨X.qs, 0, none⟩) H.g H.g) := H2.out.ha.blk.cell rfl
        have cs : w2.cell? ⟨X.qs, i, none⟩ = some (ptrS sa) := H2.out.sls.row.cell (by simp; exact ⟨sa, hsa, rfl⟩)
        have b1 : w2.cell? ⟨w.heap.size, 1, none⟩ = some (.int .i64 i) := (b02.cell (p := ⟨w.heap.size, 1, none⟩) hws).trans a1
        have b2' : w2.cell? ⟨w.heap.size, 2, none⟩ = some (.int .i64 oa) := (b02.cell (p := ⟨w.heap.size, 2, none⟩) hws).trans a2
        have z2 := b02.size
        have hnon : (sa = none ↔ sx = none) := by
          have := HH0.out.sls.non i
          rw [hsa, hsx] at this
          simpa using this
        have hR3 := HR2.out
        rw [Int.toNat_natCast, hsx] at hR3
        have hpa' : W0.heap.size ≤ pa := hpa
        have hba' : W0.heap.size ≤ ba := hba
        have hft' := hft
        obtain ⟨f1, _, _, _⟩ := hft'
        have HLT : Hid (∀ (j : Nat) c, X.sl[j]? = some (some c) → c.1 < w.heap.size ∧ c.2.1 < w.heap.size ∧ c.2.2 < w.heap.size) := fun j c hc => HH.out.sal_lt hc
        have HB02 : Hid _ := b02
        have Hsa : Hid _ := hsa
        rw [Int.toNat_natCast] at HL2
        clear hR2 HR2 HR1 a1 a2 a3 c0 b02 b2 L2 hsx hgd hpa hba hS hft
        cases sx with
        | some x =>
          cases sa with
          | none => have := hnon.1 rfl; cases this
          | some a =>
            unfold ptrS at cs
            simp only [Option.map_some] at cs
            simp only at hR3
            subst hR3
            clear hsa hnon
            go_wp2
            go_region
            go_wp2
            go_ret
            have HBd : Below w.heap.size w w2.drew := HB2.out.drew
            exact ⟨rfl, X, HH.out.below HBd, Hst.of_below HBd, rfl⟩
        | none =>
          obtain rfl := hnon.2 rfl
          unfold ptrS at cs
          simp only [Option.map_none] at cs
          simp only at hR3
          have HR3 : Hid _ := hR3
          have HFr : Hid (∀ wx, Below w2.heap.size w2 wx → _) := fun wx hx => free_hs wx (H2.out.below hx).ha who (i : Int) hw0 hw1 (Or.inr ⟨by omega, by omega⟩)
          have hw2s : w.heap.size < w2.heap.size := by omega
          clear hsa hnon hR3
          go_wp2_with fail
          go_region
          go_upto_region 11 with fail
          refine wp_region_held_drew (S := (fun wx => Below w2.heap.size w2 wx)) (by kernel_rfl) ((Below.refl _ _).drew.drew) (fun hS => ?_)
          refine tkG (i := 0) (v := .pointer (some ⟨X.p, 0, none⟩)) rfl hS ?_
          refine tkG (i := 1) (v := .int .i64 who) rfl hS ?_
          refine tkG (i := 2) (v := .pointer (some ⟨w.heap.size, 1, none⟩)) rfl hS ?_
          refine tkH (i := 3) (v := .int .i64 i) rfl (fun w3 hS => by have e1 : w3.cell? ⟨w.heap.size, 1, none⟩ = some (.int .i64 i) := (hS.cell (p := ⟨w.heap.size, 1, none⟩) hw2s).trans b1; have e2 : w3.cell? ⟨w.heap.size, 2, none⟩ = some (.int .i64 oa) := (hS.cell (p := ⟨w.heap.size, 2, none⟩) hw2s).trans b2'; go_simp) hS ?_
          refine tkG (i := 5) (v := .pointer (some ⟨w.heap.size, 2, none⟩)) rfl hS ?_
          refine tkH (i := 6) (v := .int .i64 oa) rfl (fun w3 hS => by have e1 : w3.cell? ⟨w.heap.size, 1, none⟩ = some (.int .i64 i) := (hS.cell (p := ⟨w.heap.size, 1, none⟩) hw2s).trans b1; have e2 : w3.cell? ⟨w.heap.size, 2, none⟩ = some (.int .i64 oa) := (hS.cell (p := ⟨w.heap.size, 2, none⟩) hw2s).trans b2'; go_simp) hS ?_
          refine wpAnyH_ready (rs := [4]) (by kernel_rfl) (by simp) ?_
          refine AllReadyH.cons rfl (fun K hK => ?_) AllReadyH.nil
          go_simp
          refine (HFr.out _ hS).mono ?_
          rintro e w4 ⟨rfl, b4⟩
          have b24 : Below w2.heap.size w2 w4 := hS.trans (b4.mono hS.size)
          refine hK.out _ _ b24 (fun hS => ?_)
          clear hK
          obtain ⟨fr, hfr⟩ : ∃ fr, freeL H.l who (i : Int) = fr := ⟨_, rfl⟩
          rw [hfr] at HR3
          refine tkG (i := 7) (v := .bool (decide (freeL H.l who (i : Int) < oa))) rfl hS ?_
          refine wpAnyH_done (by kernel_rfl) ?_ _
          have HB4 : Hid (Below w.heap.size w w4) := HB2.out.trans (b24.mono (by omega))
          have H4 : Hid _ := HH.out.below HB4.out
          rw [hfr]
          have r1 : w4.cell? ⟨w.heap.size, 1, none⟩ = some (.int .i64 i) := (b24.cell (p := ⟨w.heap.size, 1, none⟩) hw2s).trans b1
          have r2 : w4.cell? ⟨w.heap.size, 2, none⟩ = some (.int .i64 oa) := (b24.cell (p := ⟨w.heap.size, 2, none⟩) hw2s).trans b2'
          have HL4 : Hid _ := Clo.Lc.below HL2.out b24
          have HO4 : Hid (Blk w4 w.heap.size #[.int .i64 ok, .int .i64 i, .int .i64 oa, .int .i64 od, .int .i64 oi, .float .f64 opr] 39) := (Blk.below HO0.out HB02.out).below b24
          clear b1 b2' c3 cs hfr HFr b4 b24 hS
          by_cases hfp : fr < oa
          · have hd : decide (fr < oa) = true := decide_eq_true hfp
            have hR4 := HR3.out
            rw [if_pos hfp] at hR4
            subst hR4
            rw [hd]
            clear hfp
            go_wp2
            go_ret
            exact ⟨rfl, X, H4.out, Hst.of_below HB4.out, rfl⟩
          · have hd : decide (fr < oa) = false := decide_eq_false hfp
            have hR4 := HR3.out
            rw [if_neg hfp] at hR4
            rw [hd]
            have HR4 : Hid _ := hR4
            have HBd : Hid _ := bind_hs w4 H4.out.ha who (i : Int) oa (by omega) (by omega)
            clear hfp hR4 HR3
            go_wp2_with fail
            refine Calls.mono HBd.out ?_
            rintro e w5 ⟨rfl, L5, o5⟩
            have C5 : Chg (fun k => k = X.bl) w4 w5 := Chg.of_off o5 rfl
            have HF := H4.out.acc (Ha.wide H4.out.ha L5 C5 (bindL_len _ _ _ _ _)) C5 (bindL_len _ _ _ _ _)
            have HFF : Hid _ := HF
            have c35 : w5.cell? ⟨X.p, 3, none⟩ = some (.slice (some ⟨X.qs, 0, none⟩) H.g H.g) := HF.1.ha.blk.cell rfl
            have h5r := HF.1.sls.row
            have nq : X.qs ≠ X.p := blk_unl h5r HF.1.ha.blk (by decide)
            have cq5 : w5.cell? ⟨X.qs, i, none⟩ = some (.pointer none) := h5r.cell (by simp; exact ⟨none, Hsa.out, rfl⟩)
            have nbl : w.heap.size ≠ X.bl := blk_unl HO4.out H4.out.ha.lg.row (by decide)
            have nos : X.qs ≠ w.heap.size := fun e => by have := HH.out.foot_lt X.qs (Or.inr (Or.inr (Or.inl rfl))); omega
            have r15 : w5.cell? ⟨w.heap.size, 1, none⟩ = some (.int .i64 i) := C5.cell r1 nbl
            have fq5 : w5.frozen? ⟨X.qs, i, none⟩ = false := h5r.frozen
            obtain ⟨W6, hW6, X6, B6⟩ : ∃ W6, (w5.drew.alloc (.cells #[.pointer (some ⟨pa, 0, none⟩), .int .i64 who] 66)) = W6 ∧ Blk W6 w5.heap.size #[.pointer (some ⟨pa, 0, none⟩), .int .i64 who] 66 ∧ Below w5.heap.size w5 W6 := ⟨_, rfl, blk_new _ _ _ _ rfl, by go_grown⟩
            have M6 := HFF.out.1.below B6
            have cq6 : W6.cell? ⟨X.qs, i, none⟩ = some (.pointer none) := M6.sls.row.cell (by simp; exact ⟨none, Hsa.out, rfl⟩)
            have fq6 : W6.frozen? ⟨X.qs, i, none⟩ = false := M6.sls.row.frozen
            have r16 : W6.cell? ⟨w.heap.size, 1, none⟩ = some (.int .i64 i) := (B6.cell (p := ⟨w.heap.size, 1, none⟩) (World.block_lt_of_cell? _ _ r15)).trans r15
            have c36 : W6.cell? ⟨X.p, 3, none⟩ = some (.slice (some ⟨X.qs, 0, none⟩) H.g H.g) := M6.ha.blk.cell rfl
            have z5 := C5.size
            have z4 := HB4.out.size
            have npb : pa ≠ X.bl := blk_unl HL4.out.blk H4.out.ha.lg.row (by decide)
            have nbb : ba ≠ X.bl := blk_unl HL4.out.row H4.out.ha.lg.row (by decide)
            have L6 : Clo.Lc W6 pa ba (Clo.Au.new oa st od H.l.length) := (Clo.Lc.chg HL4.out C5 npb nbb).below B6
            have T6 : Hst w W6 X X := ((Hst.of_below HB4.out).trans HFF.out.2).trans (Hst.of_below B6)
            have HM7 := Hm.add (w0 := w) (i := i) (a := (w5.heap.size, pa, ba)) (x := (Clo.Au.new oa st od H.l.length, who)) M6 (by show i < H.g; omega) X6 L6 ⟨by simp only; omega, by simp only; omega⟩ (fun j c hc => by
              obtain ⟨h1, h2, h3⟩ := HLT.out j c hc
              exact ⟨by simp only; omega, by simp only; omega, by simp only; omega⟩) ⟨by simp only; rw [bindL_len]; simp [Clo.Au.new], by simp only; omega, by simp only; rw [bindL_len]; omega⟩ T6 ⟨by simp only; omega, by simp only; omega⟩
            obtain ⟨W7, hW7, HM7'⟩ : ∃ W7, W6.setCell ⟨X.qs, i, none⟩ (.pointer (some ⟨w5.heap.size, 0, none⟩)) = W7 ∧ Hid (Hm W7 base { X with sl := X.sl.set i (some (w5.heap.size, pa, ba)) } { H with l := bindL H.g H.l who (i : Int) oa, ss := H.ss.set i (some (Clo.Au.new oa st od H.l.length, who)) } ∧ Hst w W7 X { X with sl := X.sl.set i (some (w5.heap.size, pa, ba)) }) := ⟨_, rfl, HM7⟩
            have c37 : W7.cell? ⟨X.p, 3, none⟩ = some (.slice (some ⟨X.qs, 0, none⟩) H.g H.g) := HM7'.out.1.ha.blk.cell rfl
            have r17 : W7.cell? ⟨w.heap.size, 1, none⟩ = some (.int .i64 i) := by
              rw [← hW7]
              exact (chg_gone _ : Chg (fun k => k = X.qs) W6 _).cell r16 (fun e => nos e.symm)
            have hR5 := HR4.out
            clear HF r1 r2 HBd M6 X6 B6 T6 L6 HM7 h5r L5 o5 C5 npb nbb HLT HL4 HO4 H4 HB4 HR4
            subst hR5
            go_upto_region 14 with fail
            refine wp_region_held_drew (S := (fun wx => wx.cell? ⟨X.p, 3, none⟩ = some (.slice (some ⟨X.qs, 0, none⟩) H.g H.g) ∧ wx.cell? ⟨w.heap.size, 1, none⟩ = some (.int .i64 i))) (by kernel_rfl) ⟨c35, r15⟩ (fun hS => ?_)
            refine tkG (i := 0) (v := .pointer (some ⟨X.p, 0, none⟩)) rfl hS ?_
            refine tkG (i := 1) (v := .pointer (some ⟨X.p, 0, none⟩)) rfl hS ?_
            refine tkG (i := 2) (v := .pointer (some ⟨X.p, 3, none⟩)) rfl hS ?_
            refine tkH (i := 3) (v := .slice (some ⟨X.qs, 0, none⟩) H.g H.g) rfl (fun w3 hS => by have e0 := hS.1; have e1 := hS.2; go_simp) hS ?_
            refine tkG (i := 4) (v := .pointer (some ⟨w.heap.size, 1, none⟩)) rfl hS ?_
            refine tkH (i := 5) (v := .int .i64 i) rfl (fun w3 hS => by have e0 := hS.1; have e1 := hS.2; go_simp) hS ?_
            refine tkG (i := 6) (v := .pointer (some ⟨pa, 0, none⟩)) rfl hS ?_
            refine tkG (i := 7) (v := .int .i64 who) rfl hS ?_
            refine tkG (i := 8) (v := .agg #[.pointer (some ⟨pa, 0, none⟩), .int .i64 who]) rfl hS ?_
            refine wpAnyH_ready (rs := [9]) (by kernel_rfl) (by simp) ?_
            refine AllReadyH.cons rfl (fun K hK => ?_) AllReadyH.nil
            go_simp
            refine hK.out _ _ ⟨c36, r16⟩ (fun hS => ?_)
            clear hK
            refine tkG (i := 10) (v := .pointer (some ⟨X.qs, i, none⟩)) rfl hS ?_
            refine wpAnyH_ready (rs := [11]) (by kernel_rfl) (by simp) ?_
            refine AllReadyH.cons rfl (fun K hK => ?_) AllReadyH.nil
            go_simp
            refine hK.out _ _ ⟨c37, r17⟩ (fun hS => ?_)
            clear hK
            refine wpAnyH_done (by kernel_rfl) ?_ _
            go_wp2
            go_ret
            exact ⟨rfl, _, HM7'.out.1, HM7'.out.2, rfl⟩
      · have hR2 := HR1.out
        rw [if_pos hft] at hR2
        subst hR2
        refine Calls.mono (Clo.new_bad oa st od (H.l.length : Int) _ hft) ?_
        rintro e w2 ⟨rfl, hw2⟩
        subst w2
        refine hK.out _ _ ((Below.refl _ _).drew) (fun hS => ?_)
        clear hK
        refine tkG (i := 10) (v := .tuple #[.pointer none, .int .i64 1]) rfl hS ?_
        refine tkG (i := 11) (v := .pointer none) rfl hS ?_
        refine tkG (i := 12) (v := .int .i64 1) rfl hS ?_
        refine tkG (i := 13) (v := .pointer none) rfl hS ?_
        refine tkG (i := 14) (v := .int .i64 1) rfl hS ?_
        refine wpAnyH_done (by kernel_rfl) ?_ _
        have HBd : Hid (Below w.heap.size w W0.drew) := HB0.out.drew
        go_wp2
        go_ret
        exact ⟨rfl, X, HH.out.below HBd.out, Hst.of_below HBd.out, rfl⟩
    · rw [if_pos hec] at hR1
      subst hR1
      have hdc : (ec == 0) = false := by simpa using hec
      clear hec
      go_wp2
      go_ret
      exact ⟨rfl, X, HH0.out, Hst.of_below HB0.out, rfl⟩
  · rw [decide_eq_false hgd] at HHS
    have hR1 := HR.out
    rw [if_pos hgd] at hR1
    subst hR1
    clear hgd
    go_enter Tryz.func59, Tryz.ntmps59
    go_wp2_with fail
    refine Calls.mono HHS.out ?_
    rintro e w1 ⟨rfl, hw1'⟩
    subst w1
    go_wp2
    go_ret
    exact ⟨rfl, X, HH0.out, Hst.of_below HB0.out, rfl⟩
end Go.Proofs.YtpekfpfhonechaaGreat
