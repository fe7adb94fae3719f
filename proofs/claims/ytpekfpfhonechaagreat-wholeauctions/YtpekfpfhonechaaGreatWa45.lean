/- The house: want. -/
import Derived.Test.YtpekfpfhonechaaGreatWa39
import Derived.Test.YtpekfpfhonechaaGreatWa42
import Derived.Test.YtpekfpfhonechaaGreatWa43
import Derived.Test.YtpekfpfhonechaaGreatWa27
namespace Go.Proofs.YtpekfpfhonechaaGreat
open Go.RowKit
set_option linter.unusedSimpArgs false
set_option linter.unusedVariables false
variable {base : Nat}

theorem bid_same {A : Clo.Au} {who n : Int} (h : ¬ (A.bid who n).1 = 0) : (A.bid who n).2 = A := by
  unfold Clo.Au.bid at h ⊢
  split
  · rfl
  · next h1 =>
    rw [if_neg h1] at h
    split
    · rfl
    · next h2 =>
      rw [if_neg h2] at h
      split
      · rfl
      · next h3 => rw [if_neg h3] at h; exact absurd rfl h
def wantR (H : Hs) (who : Int) (o : Oo) : Int × Hs :=
  if ¬ (0 ≤ o.g ∧ o.g ≤ (H.g : Int) - 1) then (1, H) else if 1048576 < o.a then (1, H)
  else match H.ss[o.g.toNat]? with
  | some (some x) =>
    if x.2 = who then (80, H)
    else if ¬ ((x.1.bid who o.a).1 = 0) then ((x.1.bid who o.a).1, H)
    else if freeL H.l who (-1) < hldM (x.1.bid who o.a).2 who.toNat - hldM x.1 who.toNat then
      (61, { H with ss := H.ss.set o.g.toNat (some (((x.1.bid who o.a).2.bid who (Clo.nowOf x.1.ds who.toNat)).2, x.2)) })
    else (0, { H with l := bindL H.g H.l who (-1) (hldM (x.1.bid who o.a).2 who.toNat - hldM x.1 who.toNat), ss := H.ss.set o.g.toNat (some ((x.1.bid who o.a).2, x.2)) })
  | _ => (3, H)

set_option maxRecDepth 100000 in
set_option maxHeartbeats 4000000 in
theorem want_hs (w : World) {X : Ad} {H : Hs} (h : Hm w base X H) (hB : base ≤ w.heap.size) (who : Int) (hw0 : 0 ≤ who) (hw1 : who < H.l.length) (o : Oo) (ho : o.good) :
    Calls Tryz.prog 60 #[.pointer (some ⟨X.p, 0, none⟩), .int .i64 who, o.val] w (Deed base X w (wantR H who o)) := by
  have hlen := h.ha.lg.inv.len
  have hg4 := h.ha.lg.inv.g4
  obtain ⟨⟨g0, g1⟩, ⟨o0, o1⟩, ⟨s0, s1⟩, ⟨i0, i1⟩, hpr⟩ := ho
  obtain ⟨k, rfl⟩ := Int.eq_ofNat_of_zero_le hw0
  have hk : k < H.l.length := by omega
  obtain ⟨W0, hW0, O0, B0⟩ : ∃ W0, (w.alloc (.cells #[.int .i64 o.k, .int .i64 o.g, .int .i64 o.a, .int .i64 o.d, .int .i64 o.i, .float .f64 o.pr] 39)) = W0 ∧ Blk W0 w.heap.size #[.int .i64 o.k, .int .i64 o.g, .int .i64 o.a, .int .i64 o.d, .int .i64 o.i, .float .f64 o.pr] 39 ∧ Below w.heap.size w W0 := ⟨_, rfl, blk_new _ _ _ _ rfl, by go_grown⟩
  have a1 : W0.cell? ⟨w.heap.size, 1, none⟩ = some (.int .i64 o.g) := O0.cell rfl
  have a2 : W0.cell? ⟨w.heap.size, 2, none⟩ = some (.int .i64 o.a) := O0.cell rfl
  have H0 := h.below B0
  have c3 : W0.cell? ⟨X.p, 3, none⟩ = some (.slice (some ⟨X.qs, 0, none⟩) H.g H.g) := H0.ha.blk.cell rfl
  have HHS : Hid _ := has_hs W0 H0.ha o.g
  have HH : Hid _ := h
  have HH0 : Hid _ := H0
  have HB0 : Hid _ := B0
  have HO0 : Hid _ := O0
  obtain ⟨R, hR⟩ : ∃ R, wantR H (k : Int) o = R := ⟨_, rfl⟩
  rw [hR]
  unfold wantR at hR
  rw [Int.toNat_natCast] at hR
  have HR : Hid _ := hR
  unfold Oo.val
  clear h H0 O0 B0 hR hpr s0 s1 i0 i1
  obtain ⟨ok, og, oa, od, oi, opr⟩ := o
  simp only at HHS HR a1 a2 hW0 HO0 g0 g1 o0 o1 ⊢
  by_cases hgd : 0 ≤ og ∧ og ≤ (H.g : Int) - 1
  · rw [decide_eq_true hgd] at HHS
    have hR1 := HR.out
    rw [if_neg (fun h => h hgd)] at hR1
    by_cases hid : 1048576 < oa
    · have hd : decide (1048576 < oa) = true := decide_eq_true hid
      rw [if_pos hid] at hR1
      subst hR1
      clear hgd hid
      go_enter Tryz.func60, Tryz.ntmps60
      go_wp2_with fail
      refine Calls.mono HHS.out ?_
      rintro e w1 ⟨rfl, hw1'⟩
      subst w1
      go_wp2
      go_ret
      exact ⟨rfl, X, HH0.out, Hst.of_below HB0.out, rfl⟩
    · have hd : decide (1048576 < oa) = false := decide_eq_false hid
      rw [if_neg hid] at hR1
      obtain ⟨i, rfl⟩ := Int.eq_ofNat_of_zero_le g0
      rw [Int.toNat_natCast] at hR1
      have hii : (i : Int) < (H.g : Int) := by omega
      have hsl : i < H.ss.length := by rw [HH.out.sls.nn]; omega
      obtain ⟨sx, hsx⟩ : ∃ sx, H.ss[i]? = some sx := ⟨H.ss[i], by simp [hsl]⟩
      obtain ⟨sa, hsa⟩ := get_both hsx (HH.out.sls.ns.trans HH.out.sls.nn.symm)
      have cs : W0.cell? ⟨X.qs, i, none⟩ = some (ptrS sa) := HH0.out.sls.row.cell (by simp; exact ⟨sa, hsa, rfl⟩)
      have hnon : (sa = none ↔ sx = none) := by
        have := HH0.out.sls.non i
        rw [hsa, hsx] at this
        simpa using this
      rw [hsx] at hR1
      cases sx with
      | none =>
        obtain rfl := hnon.2 rfl
        simp only at hR1
        subst hR1
        unfold ptrS at cs
        simp only [Option.map_none] at cs
        clear hgd hid hsx hsa hnon
        go_enter Tryz.func60, Tryz.ntmps60
        go_wp2_with fail
        refine Calls.mono HHS.out ?_
        rintro e w1 ⟨rfl, hw1'⟩
        subst w1
        go_wp2
        go_region
        go_wp2
        go_ret
        have HBd : Below w.heap.size w W0.drew := HB0.out.drew
        exact ⟨rfl, X, HH.out.below HBd, Hst.of_below HBd, rfl⟩
      | some x =>
        cases sa with
        | none => have := hnon.1 rfl; cases this
        | some a =>
          unfold ptrS at cs
          simp only [Option.map_some] at cs
          simp only at hR1
          obtain ⟨k1, k2, k3⟩ := HH0.out.sls.sal i a x hsa hsx
          obtain ⟨d2, d3, d4⟩ := HH0.out.ds i x hsx
          have s1 : W0.cell? ⟨a.1, 1, none⟩ = some (.int .i64 x.2) := k1.cell rfl
          have s0 : W0.cell? ⟨a.1, 0, none⟩ = some (.pointer (some ⟨a.2.1, 0, none⟩)) := k1.cell rfl
          have HK1 : Hid _ := k1
          have HK2 : Hid _ := k2
          have Hi : Hid _ := hsa
          have Hx : Hid _ := hsx
          by_cases hse : x.2 = (k : Int)
          · have hd2 : (x.2 == (k : Int)) = true := by simpa using hse
            rw [if_pos hse] at hR1
            subst hR1
            clear hgd hid hsx hsa hnon k1 k2 k3 d2 d3 d4
            generalize x.2 = sel at *
            subst hse
            go_enter Tryz.func60, Tryz.ntmps60
            go_wp2_with fail
            refine Calls.mono HHS.out ?_
            rintro e w1 ⟨rfl, hw1'⟩
            subst w1
            go_wp2
            go_region
            go_wp2
            go_ret
            have HBd : Below w.heap.size w W0.drew := HB0.out.drew
            exact ⟨rfl, X, HH.out.below HBd, Hst.of_below HBd, rfl⟩
          · have hd2 : (x.2 == (k : Int)) = false := by simpa using hse
            rw [if_neg hse] at hR1
            have HR1 : Hid _ := hR1
            have hkl : k < x.1.ds.length := by omega
            have HWa : Hid (∀ wx, Below W0.heap.size W0 wx → _) := fun wx hx => Clo.wants_ok wx (k2.below hx) (k : Int) (by omega) (by omega)
            rw [Int.toNat_natCast] at HWa
            have HHd : Hid (∀ wx, Below W0.heap.size W0 wx → _) := fun wx hx => holds_hs wx (k1.below hx) (k2.below hx) k hkl
            have hb0 := (hld_bd k2.inv hkl).2.2
            have hdm := k2.inv.dm k hkl
            have hbs : ¬ (x.1.bid (k : Int) oa).1 = 0 → (x.1.bid (k : Int) oa).2 = x.1 := bid_same
            have hbk := bid_keeps x.1 (k : Int) oa
            obtain ⟨rb, hrb⟩ : ∃ rb, x.1.bid (k : Int) oa = rb := ⟨_, rfl⟩
            rw [hrb] at HR1 hbs hbk
            obtain ⟨hl0, hhl0⟩ : ∃ hl0, hldM x.1 k = hl0 := ⟨_, rfl⟩
            rw [hhl0] at HR1 HHd hb0
            obtain ⟨no, hno⟩ : ∃ no, Clo.nowOf x.1.ds k = no := ⟨_, rfl⟩
            rw [hno] at HR1 HWa hdm
            obtain ⟨wa, hwa⟩ : ∃ wa, Clo.wasOf x.1.ds k = wa := ⟨_, rfl⟩
            rw [hwa] at HWa hdm
            obtain ⟨sel, hsel⟩ : ∃ sel, x.2 = sel := ⟨_, rfl⟩
            have HRB : Hid _ := And.intro hrb (And.intro hbs hbk)
            have z0 := HB0.out.size
            have hw0s : w.heap.size < W0.heap.size := Blk.lt HO0.out
            clear hgd hid hsx hsa hnon k1 k2 k3 d2 d3 d4 hR1 hbs hbk hrb hhl0 hno hwa
            rw [hsel] at hse hd2 s1
            clear hsel
            go_enter Tryz.func60, Tryz.ntmps60
            go_wp2_with fail
            refine Calls.mono HHS.out ?_
            rintro e w1 ⟨rfl, hw1'⟩
            subst w1
            go_wp2_with fail
            go_region
            go_wp2_with fail
            refine Calls.mono (HWa.out _ ((Below.refl _ _).drew)) ?_
            rintro e w2 ⟨rfl, b2'⟩
            have b2 : Below W0.heap.size W0 w2 := ((Below.refl W0.heap.size W0).drew).trans b2'
            clear b2'
            have HH2 : Hid _ := HHd.out w2 b2
            go_wp2_with fail
            refine Calls.mono HH2.out ?_
            rintro e w4 ⟨rfl, b4⟩
            have b04 : Below W0.heap.size W0 w4 := b2.trans (b4.mono b2.size)
            have z4 := b04.size
            have HB4 : Hid (Below w.heap.size w w4) := HB0.out.trans (b04.mono z0)
            have HMd : Hid (Hm w4.drew base X H) := (HH.out.below HB4.out).below ((Below.refl _ _).drew)
            have s04 : w4.cell? ⟨a.1, 0, none⟩ = some (.pointer (some ⟨a.2.1, 0, none⟩)) := (b04.cell (p := ⟨a.1, 0, none⟩) (World.block_lt_of_cell? _ _ s0)).trans s0
            have a24 : w4.cell? ⟨w.heap.size, 2, none⟩ = some (.int .i64 oa) := (b04.cell (p := ⟨w.heap.size, 2, none⟩) (World.block_lt_of_cell? _ _ a2)).trans a2
            obtain ⟨k1, k2, k3⟩ := HMd.out.sls.sal i a x Hi.out Hx.out
            have n1 : ¬ (a.1 = a.2.1 ∨ a.1 = a.2.2) := by
              intro e; rcases e with e | e
              · exact blk_unl k1 k2.blk (by decide) e
              · exact blk_unl k1 k2.row (by decide) e
            have O4 : Blk w4.drew w.heap.size #[.int .i64 ok, .int .i64 i, .int .i64 oa, .int .i64 od, .int .i64 oi, .float .f64 opr] 39 := (Blk.below HO0.out b04).below ((Below.refl _ _).drew)
            have n2 : ¬ (w.heap.size = a.2.1 ∨ w.heap.size = a.2.2) := by
              intro e; rcases e with e | e
              · exact blk_unl O4 k2.blk (by decide) e
              · exact blk_unl O4 k2.row (by decide) e
            have HBi : Hid _ := Clo.bid_calls w4.drew k2 (k : Int) oa rb HRB.out.1
            clear k1 k2 k3 O4 b04 b2 b4 HWa HHd HH2 HHS s0 s1 a1 cs
            go_upto_region 10 with fail
            refine wp_region_held_drew (S := (fun wx => Chg (fun k => k = a.2.1 ∨ k = a.2.2) w4 wx)) (by kernel_rfl) (Chg.of_below (Below.refl w4.heap.size w4) : Chg (fun k => k = a.2.1 ∨ k = a.2.2) w4 w4).drew (fun hS => ?_)
            refine tkG (i := 0) (v := .pointer (some ⟨a.1, 0, none⟩)) rfl hS ?_
            refine tkG (i := 1) (v := .pointer (some ⟨a.1, 0, none⟩)) rfl hS ?_
            refine tkG (i := 2) (v := .pointer (some ⟨a.1, 0, none⟩)) rfl hS ?_
            refine tkH (i := 3) (v := .pointer (some ⟨a.2.1, 0, none⟩)) rfl (fun w3 hS => by have e0 : w3.cell? ⟨a.1, 0, none⟩ = some (.pointer (some ⟨a.2.1, 0, none⟩)) := Chg.cell hS s04 n1; have e1 : w3.cell? ⟨w.heap.size, 2, none⟩ = some (.int .i64 oa) := Chg.cell hS a24 n2; go_simp) hS ?_
            refine tkG (i := 4) (v := .int .i64 k) rfl hS ?_
            refine tkG (i := 5) (v := .pointer (some ⟨w.heap.size, 2, none⟩)) rfl hS ?_
            refine tkH (i := 6) (v := .int .i64 oa) rfl (fun w3 hS => by have e0 : w3.cell? ⟨a.1, 0, none⟩ = some (.pointer (some ⟨a.2.1, 0, none⟩)) := Chg.cell hS s04 n1; have e1 : w3.cell? ⟨w.heap.size, 2, none⟩ = some (.int .i64 oa) := Chg.cell hS a24 n2; go_simp) hS ?_
            refine wpAnyH_ready (rs := [7]) (by kernel_rfl) (by simp) ?_
            refine AllReadyH.cons rfl (fun K hK => ?_) AllReadyH.nil
            go_simp
            refine Calls.mono HBi.out ?_
            rintro e w5 ⟨rfl, L5, o5⟩
            have hC5 : Chg (fun k => k = a.2.1 ∨ k = a.2.2) w4 w5 := ((Chg.of_below (Below.refl w4.heap.size w4) : Chg (fun k => k = a.2.1 ∨ k = a.2.2) w4 w4).drew).trans (fun k hk => Or.inl hk) (Chg.of_ofc o5 (Or.inl rfl) (Or.inr rfl))
            refine hK.out _ _ hC5 (fun hS => ?_)
            clear hK
            refine tkG (i := 8) (v := .int .i64 rb.1) rfl hS ?_
            refine wpAnyH_done (by kernel_rfl) ?_ _
            have HM5 : Hid _ := HMd.out.sal Hi.out Hx.out L5 o5 HRB.out.2.2.2
            have H05 : Hid (Hst w w5 X X) := ((Hst.of_below HB4.out).trans (Hst.of_below ((Below.refl _ _).drew))).trans HM5.out.2
            have hsl2 : i < H.ss.length := (List.getElem?_eq_some_iff.1 Hx.out).1
            clear L5 o5 hC5 n1 n2 s04 a24 HBi hS
            obtain ⟨rc, A5⟩ := rb
            by_cases hrc : rc = 0
            · have hR2 := HR1.out
              simp only at hR2
              rw [if_neg (fun h => h hrc)] at hR2
              subst hrc
              have HR2 : Hid _ := hR2
              obtain ⟨q1, q2, _⟩ := HM5.out.1.sls.sal i a (A5, x.2) Hi.out (by simp [hsl2])
              have hk5 : k < A5.ds.length := by have := HRB.out.2.2.2; simp only at this; omega
              have HHd : Hid _ := holds_hs w5 q1 q2 k hk5
              have hb5 := (hld_bd q2.inv hk5).2.2
              obtain ⟨hv, hhv⟩ : ∃ hv, hldM A5 k = hv := ⟨_, rfl⟩
              simp only at HHd hb5
              rw [hhv] at HHd hb5 HR2
              clear q1 q2 hR2 hhv HR1
              go_wp2_with fail
              refine Calls.mono HHd.out ?_
              rintro e w6 ⟨rfl, b6⟩
              have HM6 : Hid _ := HM5.out.1.below b6
              have H06 : Hid (Hst w w6 X X) := H05.out.trans (Hst.of_below b6)
              have HFr : Hid _ := free_hs w6 HM6.out.ha (k : Int) (-1) (by omega) (by omega) (Or.inl rfl)
              simp only at HFr
              clear b6 HHd HM5
              go_wp2_with fail
              refine Calls.mono HFr.out ?_
              rintro e w7 ⟨rfl, b7⟩
              have HM7 : Hid _ := HM6.out.below b7
              have H07 : Hid (Hst w w7 X X) := H06.out.trans (Hst.of_below b7)
              clear b7 HFr HM6
              generalize freeL H.l (k : Int) (-1) = fr at *
              by_cases hfp : fr < hv - hl0
              · have hd3 : decide (fr < hv - hl0) = true := decide_eq_true hfp
                have hR3 := HR2.out
                rw [if_pos hfp] at hR3
                subst hR3
                obtain ⟨q1, q2, _⟩ := HM7.out.sls.sal i a (A5, x.2) Hi.out (by simp [hsl2])
                have s07 : w7.cell? ⟨a.1, 0, none⟩ = some (.pointer (some ⟨a.2.1, 0, none⟩)) := q1.cell rfl
                have HBb : Hid _ := Clo.bid_calls w7 q2 (k : Int) no _ rfl
                clear hfp q1 q2
                go_wp2_with fail
                refine Calls.mono HBb.out ?_
                rintro e w8 ⟨rfl, L8, o8⟩
                have HM8 : Hid _ := HM7.out.sal (x := (A5, x.2)) Hi.out (by simp [hsl2]) L8 o8 (bid_keeps _ _ _).2
                have H08 : Hid _ := H07.out.trans HM8.out.2
                clear L8 o8 s07
                go_wp2
                go_ret
                refine ⟨rfl, X, ?_, H08.out, rfl⟩
                have := HM8.out.1
                simp only [List.set_set] at this
                exact this
              · have hd3 : decide (fr < hv - hl0) = false := decide_eq_false hfp
                have hR3 := HR2.out
                rw [if_neg hfp] at hR3
                subst hR3
                have HBd : Hid _ := bind_hs w7 HM7.out.ha (k : Int) (-1) (hv - hl0) (by omega) (by omega)
                clear hfp
                go_wp2_with fail
                refine Calls.mono HBd.out ?_
                rintro e w8 ⟨rfl, L8, o8⟩
                have C8 : Chg (fun k => k = X.bl) w7 w8 := Chg.of_off o8 rfl
                have HF := HM7.out.acc (Ha.wide HM7.out.ha L8 C8 (bindL_len _ _ _ _ _)) C8 (bindL_len _ _ _ _ _)
                have HFF : Hid _ := HF
                clear HF L8 o8 C8
                go_wp2
                go_ret
                exact ⟨rfl, X, HFF.out.1, H07.out.trans HFF.out.2, rfl⟩
            · have hR2 := HR1.out
              have hps : A5 = x.1 := HRB.out.2.1 hrc
              simp only at hR2
              rw [if_pos hrc] at hR2
              subst hR2
              have hdc : (rc == 0) = false := by simpa using hrc
              have HFF : Hid (Hm w5 base X H) := by
                have h1 := HM5.out.1
                simp only [hps] at h1
                have e : H.ss.set i (some (x.1, x.2)) = H.ss := set_sameZ Hx.out
                rw [e] at h1
                exact h1
              clear hrc hps HM5
              go_wp2
              go_ret
              exact ⟨rfl, X, HFF.out, H05.out, rfl⟩
  · rw [decide_eq_false hgd] at HHS
    have hR1 := HR.out
    rw [if_pos hgd] at hR1
    subst hR1
    clear hgd
    go_enter Tryz.func60, Tryz.ntmps60
    go_wp2_with fail
    refine Calls.mono HHS.out ?_
    rintro e w1 ⟨rfl, hw1'⟩
    subst w1
    go_wp2
    go_ret
    exact ⟨rfl, X, HH0.out, Hst.of_below HB0.out, rfl⟩
end Go.Proofs.YtpekfpfhonechaaGreat

namespace Go.Proofs.YtpekfpfhonechaaGreat
open Go.RowKit
set_option linter.unusedSimpArgs false
set_option linter.unusedVariables false
variable {base : Nat}

/-- The order as it shall be: on the side on which it stands. -/
def byq (x q : Cal.Od) : Cal.Od := (x.1, x.2.1, x.2.2.1, x.2.2.2.1, x.2.2.2.2.1, q.by)
def amdR (H : Hs) (who g : Int) (x q : Cal.Od) : Int × Hs :=
  if freeL H.l who (bndT g (byq x q)) < bndN (byq x q) - bndN q then (61, H)
  else if ¬ (((H.book g.toNat).amend x.id who x.pr x.am).1 = 0) then (((H.book g.toNat).amend x.id who x.pr x.am).1, H)
  else (0, { H with l := bindL H.g H.l who (bndT g (byq x q)) (bndN (byq x q) - bndN q), ms := H.ms.set g.toNat ((H.book g.toNat).amend x.id who x.pr x.am).2 })
def amendR (H : Hs) (who : Int) (o : Oo) : Int × Hs :=
  if ¬ ((ordR H.g who o).2 = 0) then ((ordR H.g who o).2, H)
  else if (Cal.gtB (H.book o.g.toNat).os (ordR H.g who o).1.id).2 = false then (3, H)
  else amdR H who o.g (ordR H.g who o).1 (Cal.gtB (H.book o.g.toNat).os (ordR H.g who o).1.id).1
theorem amd_same {B : Cal.Bo} {i : Nat} {o : Cal.Od} {pr am : Int} (h : ¬ (B.amd i o pr am).1 = 0) : (B.amd i o pr am).2 = B := by
  unfold Cal.Bo.amd at h ⊢
  split
  · rfl
  · next h1 =>
    rw [if_neg h1] at h
    split
    · next h2 => rw [if_pos h2] at h; exact absurd rfl h
    · next h2 =>
      rw [if_neg h2] at h
      split
      · rfl
      · next h3 => rw [if_neg h3] at h; exact absurd rfl h
theorem amend_same {B : Cal.Bo} {x y pr am : Int} (h : ¬ (B.amend x y pr am).1 = 0) : (B.amend x y pr am).2 = B := by
  unfold Cal.Bo.amend at h ⊢
  split
  · rfl
  · next h1 =>
    rw [if_neg h1] at h
    split
    · next h2 => rw [if_pos h2] at h; exact amd_same h
    · rfl

set_option maxRecDepth 100000 in
set_option maxHeartbeats 4000000 in
theorem amend_hs (w : World) {X : Ad} {H : Hs} (h : Hm w base X H) (hB : base ≤ w.heap.size) (who : Int) (hw0 : 0 ≤ who) (hw1 : who < H.l.length) (o : Oo) (ho : o.good) (hpr : (Quo.ticksR o.pr 6).2 = 0 → 0 ≤ (Quo.ticksR o.pr 6).1 ∧ (Quo.ticksR o.pr 6).1 ≤ 1099511627776) :
    Calls Tryz.prog 62 #[.pointer (some ⟨X.p, 0, none⟩), .int .i64 who, o.val] w (Deed base X w (amendR H who o)) := by
  have hlen := h.ha.lg.inv.len
  have hg4 := h.ha.lg.inv.g4
  obtain ⟨W0, hW0, O0, B0⟩ : ∃ W0, (w.alloc (.cells #[.int .i64 o.k, .int .i64 o.g, .int .i64 o.a, .int .i64 o.d, .int .i64 o.i, .float .f64 o.pr] 39)) = W0 ∧ Blk W0 w.heap.size #[.int .i64 o.k, .int .i64 o.g, .int .i64 o.a, .int .i64 o.d, .int .i64 o.i, .float .f64 o.pr] 39 ∧ Below w.heap.size w W0 := ⟨_, rfl, blk_new _ _ _ _ rfl, by go_grown⟩
  have a0 : W0.cell? ⟨w.heap.size, 0, none⟩ = some (.int .i64 o.k) := O0.cell rfl
  have a1 : W0.cell? ⟨w.heap.size, 1, none⟩ = some (.int .i64 o.g) := O0.cell rfl
  have a2 : W0.cell? ⟨w.heap.size, 2, none⟩ = some (.int .i64 o.a) := O0.cell rfl
  have a3 : W0.cell? ⟨w.heap.size, 3, none⟩ = some (.int .i64 o.d) := O0.cell rfl
  have a4 : W0.cell? ⟨w.heap.size, 4, none⟩ = some (.int .i64 o.i) := O0.cell rfl
  have a5 : W0.cell? ⟨w.heap.size, 5, none⟩ = some (.float .f64 o.pr) := O0.cell rfl
  have HOr : Hid _ := orderOf_hs W0 (h.below B0).ha who hw0 (by omega) o ho
  have HH : Hid _ := h
  have HB0 : Hid _ := B0
  have hw0s : w.heap.size < W0.heap.size := Blk.lt O0
  obtain ⟨R, hR⟩ : ∃ R, amendR H who o = R := ⟨_, rfl⟩
  rw [hR]
  unfold amendR at hR
  have HOK : Hid ((ordR H.g who o).2 = 0 → _) := ordR_ok
  have HPR : Hid _ := hpr
  obtain ⟨x, ec, hxe⟩ : ∃ x ec, ordR H.g who o = (x, ec) := ⟨_, _, rfl⟩
  rw [hxe] at HOr hR HOK
  simp only at HOr hR HOK
  unfold Oo.val at HOr ⊢
  clear h B0 O0 hxe hpr ho
  have HR : Hid _ := hR
  clear hR
  obtain ⟨ok, og, oa, od, oi, opr⟩ := o
  simp only at HOr HR HOK a0 a1 a2 a3 a4 a5 hW0 HPR ⊢
  go_enter Tryz.func62, Tryz.ntmps62
  go_wp2_with fail
  refine Calls.mono HOr.out ?_
  rintro e w1 ⟨rfl, b1⟩
  obtain ⟨W2, hW2, X2, B2⟩ : ∃ W2, (w1.alloc (.cells #[.int .i64 0, .int .i64 0, .int .i64 0, .int .i64 0, .int .i64 0, .bool false] 51)) = W2 ∧ Blk W2 w1.heap.size (Cal.oC zOd).toArray 51 ∧ Below w1.heap.size w1 W2 := ⟨_, rfl, blk_new _ _ _ _ rfl, by go_grown⟩
  obtain ⟨W3, hW3, X3, B3⟩ : ∃ W3, W2.setRow w1.heap.size (Cal.oC x).toArray = W3 ∧ Blk W3 w1.heap.size (Cal.oC x).toArray 51 ∧ Below w1.heap.size w1 W3 := ⟨_, rfl, Blk.setRow X2 _, below_setRow B2 _ _ (Nat.le_refl _)⟩
  have z1 := b1.size
  have z0 := HB0.out.size
  have HB3 : Hid (Below W0.heap.size W0 W3) := b1.trans (B3.mono z1)
  have HX3 : Hid _ := X3
  have X2' := X2
  clear X2 B2 X3 B3 b1 a0 a2 a3 a4 a5
  have HBW : Hid (Below w.heap.size w W3) := HB0.out.trans (HB3.out.mono z0)
  have e1 : W3.cell? ⟨w.heap.size, 1, none⟩ = some (.int .i64 og) := (HB3.out.cell (p := ⟨w.heap.size, 1, none⟩) (World.block_lt_of_cell? _ _ a1)).trans a1
  clear a1
  have hun := Tryz.underlying51
  by_cases hec : ec = 0
  · subst hec
    obtain ⟨⟨g0, g1⟩, ⟨am0, am1⟩, hxx, htk⟩ := HOK.out rfl
    have hR1 := HR.out
    rw [if_neg (fun h => h rfl)] at hR1
    have HR1 : Hid _ := hR1
    obtain ⟨i, rfl⟩ := Int.eq_ofNat_of_zero_le g0
    have hpr : 0 ≤ x.pr ∧ x.pr ≤ 1099511627776 := by
      have := HPR.out htk
      rw [hxx]; exact this
    have ham : 1 ≤ x.am ∧ x.am ≤ 1048576 := by rw [hxx]; exact ⟨am0, am1⟩
    have hmb := mul_bd (a := x.pr) (f := x.am) (by omega) hpr.2 (by omega) ham.2
    have hm0 : 0 ≤ x.pr * x.am := Int.mul_nonneg hpr.1 (by omega)
    have hwr : IntKind.i64.wrap (x.pr * x.am) = x.pr * x.am := by rw [IntKind.wrap_i64]; omega
    have hml : i < H.ms.length := by rw [HH.out.mks.nm]; omega
    obtain ⟨B, hBk⟩ : ∃ B, H.ms[i]? = some B := ⟨H.ms[i], by simp [hml]⟩
    obtain ⟨b, hb⟩ := get_both hBk (HH.out.mks.nb.trans HH.out.mks.nm.symm)
    have hbook : H.book (i : Int).toNat = B := by unfold Hs.book; rw [Int.toNat_natCast, hBk]; rfl
    rw [hbook] at HR1
    unfold amdR at HR1
    rw [hbook, Int.toNat_natCast] at HR1
    have H3 := HH.out.below HBW.out
    have hkb3 := H3.mks.bk i b B hb hBk
    obtain ⟨cs, hr, hr2⟩ := H3.mks.row
    have c2 : W3.cell? ⟨X.p, 2, none⟩ = some (.slice (some ⟨X.qm, 0, none⟩) H.g X.cm) := H3.ha.blk.cell rfl
    have cq : W3.cell? ⟨X.qm, i, none⟩ = some (.pointer (some ⟨b.1, 0, none⟩)) := hr.cell (hr2 i b hb)
    have HGt : Hid (∀ wx, Below W3.heap.size W3 wx → _) := fun wx hx => Cal.get_calls x.id wx (hkb3.below hx)
    have x0 : W3.cell? ⟨w1.heap.size, 0, none⟩ = some (.int .i64 x.id) := Blk.cell HX3.out rfl
    have hmay := hkb3.inv.may
    have HBk : Hid _ := hBk
    have Hb : Hid _ := hb
    have hii : (i : Int) < (H.g : Int) := by omega
    have z3 := HBW.out.size
    clear hxx htk hR1 hbook hml hBk hb HR HOK HPR hr hr2 H3 hkb3
    rcases Cal.fnd_cases B.os x.id with ⟨f1, f2⟩ | ⟨j, q, f1, f2, f3, f4⟩
    · rw [Cal.gtB_none f2] at HGt HR1
      have hR2 := HR1.out
      rw [if_pos rfl] at hR2
      subst hR2
      clear f1 f2 HR1 hmay
      go_wp2_with ((with_reducible refine st_row (ty := 51) (cs' := (Cal.oC x).toArray) X2' (Cal.infoO6 _) (Cal.oCA_same _ _) (Cal.oCA_one _) hW3 ?_ ?_ ?_); rfl; rfl)
      go_region
      go_wp2_with fail
      refine Calls.mono (HGt.out _ ((Below.refl _ _).drew)) ?_
      rintro e w4 ⟨rfl, b4'⟩
      have b4 : Below W3.heap.size W3 w4 := ((Below.refl W3.heap.size W3).drew).trans b4'
      clear b4'
      obtain ⟨W5, hW5, X5, B5⟩ : ∃ W5, (w4.alloc (.cells #[.int .i64 0, .int .i64 0, .int .i64 0, .int .i64 0, .int .i64 0, .bool false] 51)) = W5 ∧ Blk W5 w4.heap.size (Cal.oC zOd).toArray 51 ∧ Below w4.heap.size w4 W5 := ⟨_, rfl, blk_new _ _ _ _ rfl, by go_grown⟩
      obtain ⟨W6, hW6, X6, B6⟩ : ∃ W6, W5.setRow w4.heap.size (Cal.oC zOd).toArray = W6 ∧ Blk W6 w4.heap.size (Cal.oC zOd).toArray 51 ∧ Below w4.heap.size w4 W6 := ⟨_, rfl, Blk.setRow X5 _, below_setRow B5 _ _ (Nat.le_refl _)⟩
      have z4 := b4.size
      have HB6 : Hid (Below w.heap.size w W6) := HBW.out.trans ((b4.trans (B6.mono z4)).mono z3)
      clear B5 X6 B6 b4
      go_wp2_with ((with_reducible refine st_row (ty := 51) (cs' := (Cal.oC zOd).toArray) X5 (Cal.infoO6 _) (Cal.oCA_same _ _) (Cal.oCA_one _) hW6 ?_ ?_ ?_); rfl; rfl)
      go_ret
      exact ⟨rfl, X, HH.out.below HB6.out, Hst.of_below HB6.out, rfl⟩
    · rw [Cal.gtB_some f1 f2 f3] at HGt HR1
      have hR2 := HR1.out
      rw [if_neg (fun h => by cases h)] at hR2
      simp only at hR2 HGt
      have HR2 : Hid _ := hR2
      obtain ⟨hqp, hqa, hqn, hqw⟩ := may_bd (hmay q (List.mem_of_getElem? f2))
      have hbn : 0 ≤ bndN (byq x q) ∧ bndN (byq x q) ≤ 1152921504606846976 := by
        unfold bndN
        have e1 : (byq x q).pr = x.pr := rfl
        have e2 : (byq x q).am = x.am := rfl
        rw [e1, e2]
        split <;> omega
      have HBi : Hid _ := fun wx => binds_hs (i : Int) (byq x q) wx hwr
      have HBq : Hid _ := fun wx => binds_hs (i : Int) q wx hqw
      have hth : bndT (i : Int) (byq x q) = -1 ∨ 0 ≤ bndT (i : Int) (byq x q) ∧ bndT (i : Int) (byq x q) < 4 := by
        unfold bndT; split
        · exact Or.inl rfl
        · exact Or.inr ⟨by omega, by omega⟩
      obtain ⟨y, hy⟩ : ∃ y, byq x q = y := ⟨_, rfl⟩
      have hyC : (Cal.oC x).toArray.setIfInBounds 5 (.bool q.by) = (Cal.oC y).toArray := by rw [← hy]; rfl
      have hy0 : y.id = x.id := by rw [← hy]; rfl
      have hy2 : y.pr = x.pr := by rw [← hy]; rfl
      have hy3 : y.am = x.am := by rw [← hy]; rfl
      rw [hy] at HR2 HBi hth hbn
      obtain ⟨th, hth1⟩ : ∃ th, bndT (i : Int) y = th := ⟨_, rfl⟩
      obtain ⟨nn, hnn1⟩ : ∃ nn, bndN y = nn := ⟨_, rfl⟩
      obtain ⟨tq, htq1⟩ : ∃ tq, bndT (i : Int) q = tq := ⟨_, rfl⟩
      obtain ⟨nq, hnq1⟩ : ∃ nq, bndN q = nq := ⟨_, rfl⟩
      rw [hth1, hnn1, hnq1] at HR2
      rw [hth1, hnn1] at HBi
      rw [htq1, hnq1] at HBq
      rw [hth1] at hth
      rw [hnn1] at hbn
      rw [hnq1] at hqn
      obtain ⟨rp, hrp⟩ : ∃ rp, B.amend x.id who x.pr x.am = rp := ⟨_, rfl⟩
      rw [hrp] at HR2
      have HRP : Hid _ := hrp
      have h6y := Cal.infoO6 y
      have h6q := Cal.infoO6 q
      have hkb0 := HH.out.mks.bk i b B Hb.out HBk.out
      have HYC : Hid _ := And.intro hyC (And.intro hy0 (And.intro hy2 hy3))
      clear hR2 HR1 f1 f2 f3 f4 hmay hqp hqa hqw hwr hth1 hnn1 htq1 hnq1 hrp hmb hm0 hyC hy0 hy2 hy3 hy
      have x5 : W3.cell? ⟨w1.heap.size, 5, none⟩ = some (.bool x.by) := Blk.cell HX3.out rfl
      go_wp2_with ((with_reducible refine st_row (ty := 51) (cs' := (Cal.oC x).toArray) X2' (Cal.infoO6 _) (Cal.oCA_same _ _) (Cal.oCA_one _) hW3 ?_ ?_ ?_); rfl; rfl)
      go_region
      go_wp2_with fail
      refine Calls.mono (HGt.out _ ((Below.refl _ _).drew)) ?_
      rintro e w4 ⟨rfl, b4'⟩
      have b4 : Below W3.heap.size W3 w4 := ((Below.refl W3.heap.size W3).drew).trans b4'
      clear b4'
      obtain ⟨W5, hW5, X5, B5⟩ : ∃ W5, (w4.alloc (.cells #[.int .i64 0, .int .i64 0, .int .i64 0, .int .i64 0, .int .i64 0, .bool false] 51)) = W5 ∧ Blk W5 w4.heap.size (Cal.oC zOd).toArray 51 ∧ Below w4.heap.size w4 W5 := ⟨_, rfl, blk_new _ _ _ _ rfl, by go_grown⟩
      obtain ⟨W6, hW6, X6, B6⟩ : ∃ W6, W5.setRow w4.heap.size (Cal.oC q).toArray = W6 ∧ Blk W6 w4.heap.size (Cal.oC q).toArray 51 ∧ Below w4.heap.size w4 W6 := ⟨_, rfl, Blk.setRow X5 _, below_setRow B5 _ _ (Nat.le_refl _)⟩
      have z4 := b4.size
      have B36 : Below W3.heap.size W3 W6 := b4.trans (B6.mono z4)
      have HB6 : Hid (Below w.heap.size w W6) := HBW.out.trans (B36.mono z3)
      have zw1 : w1.heap.size < W3.heap.size := Blk.lt HX3.out
      have Y6 : Blk W6 w1.heap.size (Cal.oC x).toArray 51 := Blk.below HX3.out B36
      have y5 : W6.cell? ⟨w1.heap.size, 5, none⟩ = some (.bool x.by) := Y6.cell rfl
      have f5 : W6.frozen? ⟨w1.heap.size, 5, none⟩ = false := Y6.frozen
      have q5 : W6.cell? ⟨w4.heap.size, 5, none⟩ = some (.bool q.by) := X6.cell rfl
      have e6 : W6.cell? ⟨w.heap.size, 1, none⟩ = some (.int .i64 i) := (B36.cell (p := ⟨w.heap.size, 1, none⟩) (World.block_lt_of_cell? _ _ e1)).trans e1
      obtain ⟨W7, hW7, Y7, B7⟩ : ∃ W7, W6.setCell ⟨w1.heap.size, 5, none⟩ (.bool q.by) = W7 ∧ Blk W7 w1.heap.size (Cal.oC y).toArray 51 ∧ Below w.heap.size w W7 := by
        refine ⟨_, rfl, ?_, ?_⟩
        · rw [← HYC.out.1]; exact Y6.set 5 _
        · exact ⟨HB6.out.os, HB6.out.tape, HB6.out.output, by simpa [World.setCell] using HB6.out.size, fun k hk => (Below.heap_setCell _ _ _ _ (by simp only; omega)).trans (HB6.out.block k hk)⟩
      have C67 : Chg (fun k => k = w1.heap.size) W6 W7 := by rw [← hW7]; exact chg_gone _
      have Q7 : Blk W7 w4.heap.size (Cal.oC q).toArray 51 := X6.chg C67 (by omega)
      have g7 : W7.cell? ⟨w.heap.size, 1, none⟩ = some (.int .i64 i) := C67.cell e6 (by simp only; omega)
      have HY7 : Hid _ := Y7
      have HQ7 : Hid _ := Q7
      have HB7 : Hid _ := B7
      have hb7 := B7.size
      have z34 := HX3.out
      clear b4 B5 B6 B36 X6 Y6 B7 C67 x5 x0 Q7 z34 e1 c2 cq
      go_wp2_with (first | ((with_reducible refine st_row (ty := 51) (cs' := (Cal.oC q).toArray) X5 (Cal.infoO6 _) (Cal.oCA_same _ _) (Cal.oCA_one _) hW6 ?_ ?_ ?_); rfl; rfl) | ((with_reducible refine rd_row (ty := 51) Y7 hun rfl h6y ?_ ?_); rfl))
      refine (HBi.out _).mono ?_
      rintro e w8 ⟨rfl, b8⟩
      have Q8 : Blk w8 w4.heap.size (Cal.oC q).toArray 51 := Blk.below HQ7.out b8
      have g8 : w8.cell? ⟨w.heap.size, 1, none⟩ = some (.int .i64 i) := (b8.cell (p := ⟨w.heap.size, 1, none⟩) (World.block_lt_of_cell? _ _ g7)).trans g7
      have HB8 : Hid (Below w.heap.size w w8) := HB7.out.trans (b8.mono hb7)
      have HY8 : Hid (Blk w8 w1.heap.size (Cal.oC y).toArray 51) := Blk.below HY7.out b8
      clear b8 Y7 g7 hW7 hW6 X5 hW3 hW2 X2' y5 f5 q5 e6
      go_wp2_with ((with_reducible refine rd_row (ty := 51) Q8 hun rfl h6q ?_ ?_); rfl)
      refine (HBq.out _).mono ?_
      rintro e w9 ⟨rfl, b9⟩
      have h8s := HB8.out.size
      have HB9 : Hid (Below w.heap.size w w9) := HB8.out.trans (b9.mono h8s)
      have HY9 : Hid (Blk w9 w1.heap.size (Cal.oC y).toArray 51) := Blk.below HY8.out b9
      have HFr : Hid _ := free_hs w9 (HH.out.below HB9.out).ha who th hw0 hw1 hth
      clear b9 Q8 g8
      go_wp2_with fail
      refine Calls.mono HFr.out ?_
      rintro e w10 ⟨rfl, b10⟩
      have HBX : Hid (Below w.heap.size w w10) := HB9.out.trans (b10.mono HB9.out.size)
      have HYX : Hid (Blk w10 w1.heap.size (Cal.oC y).toArray 51) := Blk.below HY9.out b10
      have HX : Hid _ := HH.out.below HBX.out
      clear b10 HFr
      generalize freeL H.l who th = fr at *
      by_cases hfp : fr < nn - nq
      · have hd : decide (fr < nn - nq) = true := decide_eq_true hfp
        have hR3 := HR2.out
        rw [if_pos hfp] at hR3
        subst hR3
        clear hfp
        go_wp2
        go_ret
        exact ⟨rfl, X, HX.out, Hst.of_below HBX.out, rfl⟩
      · have hd : decide (fr < nn - nq) = false := decide_eq_false hfp
        have hR3 := HR2.out
        rw [if_neg hfp] at hR3
        have HR3 : Hid _ := hR3
        have hkbX := HX.out.mks.bk i b B Hb.out HBk.out
        have HPt : Hid _ := Cal.amend_calls x.id who x.pr x.am w10 hkbX (Nat.le_trans hB HBX.out.size) rp HRP.out
        have u0 : w10.cell? ⟨w1.heap.size, 0, none⟩ = some (.int .i64 x.id) := by rw [← HYC.out.2.1]; exact Blk.cell HYX.out rfl
        have u2 : w10.cell? ⟨w1.heap.size, 2, none⟩ = some (.int .i64 x.pr) := by rw [← HYC.out.2.2.1]; exact Blk.cell HYX.out rfl
        have u3 : w10.cell? ⟨w1.heap.size, 3, none⟩ = some (.int .i64 x.am) := by rw [← HYC.out.2.2.2]; exact Blk.cell HYX.out rfl
        clear hfp hR3 HR2 hkbX
        go_wp2_with fail
        refine Calls.mono HPt.out ?_
        rintro e w11 ⟨rfl, v', ST⟩
        have HM6 : Hid _ := HX.out.mkt Hb.out ST
        have H06 : Hid (Hst w w11 X { X with bs := X.bs.set i (b.1, v') }) := (Hst.of_below HBX.out).trans HM6.out.2
        clear ST HPt u0 u2 u3
        obtain ⟨rc, rB⟩ := rp
        by_cases hrc : rc = 0
        · have hR4 := HR3.out
          simp only at hR4
          rw [if_neg (fun h => h hrc)] at hR4
          subst hR4
          subst hrc
          have HBd : Hid _ := bind_hs w11 HM6.out.1.ha who th (nn - nq) (by omega) (by omega)
          go_wp2_with fail
          refine Calls.mono HBd.out ?_
          rintro e w12 ⟨rfl, L7, o7⟩
          have C7 : Chg (fun k => k = X.bl) w11 w12 := Chg.of_off o7 rfl
          have HF := HM6.out.1.acc (Ha.wide HM6.out.1.ha L7 C7 (bindL_len _ _ _ _ _)) C7 (bindL_len _ _ _ _ _)
          have HFF : Hid _ := HF
          clear HF L7 o7 C7
          go_wp2
          go_ret
          exact ⟨rfl, _, HFF.out.1, H06.out.trans HFF.out.2, rfl⟩
        · have hR4 := HR3.out
          have hps : rB = B := by have h1 := amend_same (B := B) (x := x.id) (y := who) (pr := x.pr) (am := x.am) (by rw [HRP.out]; exact hrc); rw [HRP.out] at h1; exact h1
          simp only at hR4
          rw [if_pos hrc] at hR4
          subst hR4
          have hdc : (rc == 0) = false := by simpa using hrc
          have HFF : Hid (Hm w11 base { X with bs := X.bs.set i (b.1, v') } H) := by
            have h1 := HM6.out.1
            simp only [hps] at h1
            rw [Hs.same HBk.out] at h1
            exact h1
          clear hrc hps
          go_wp2
          go_ret
          exact ⟨rfl, _, HFF.out, H06.out, rfl⟩
  · have hR1 := HR.out
    rw [if_pos hec] at hR1
    subst hR1
    have hdc : (ec == 0) = false := by simpa using hec
    clear hec
    go_wp2_with ((with_reducible refine st_row (ty := 51) (cs' := (Cal.oC x).toArray) X2' (Cal.infoO6 _) (Cal.oCA_same _ _) (Cal.oCA_one _) hW3 ?_ ?_ ?_); rfl; rfl)
    go_ret
    exact ⟨rfl, X, HH.out.below HBW.out, Hst.of_below HBW.out, rfl⟩
end Go.Proofs.YtpekfpfhonechaaGreat
