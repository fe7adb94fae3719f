/- The house: a bidder wants no more than it can pay for. -/
import Derived.Test.YtpekfpfhonechaaGreatWa41
import Derived.Deep.DeepCutAuto
import Derived.Deep.CutBlock
import Derived.Test.YtpekfpfhonechaaGreatWa13
namespace Go.Proofs.YtpekfpfhonechaaGreat
open Go.RowKit
set_option linter.unusedSimpArgs false
set_option linter.unusedVariables false
variable {base : Nat}

def cutQ (l : Ks) (A : Clo.Au) (who : Nat) (held : Int) : Int := (freeL l who (-1) + held).tdiv A.price
def cutA (l : Ks) (A : Clo.Au) (who : Nat) (held : Int) : Clo.Au := if cutQ l A who held < Clo.nowOf A.ds who then (A.bid who (cutQ l A who held)).2 else A
def cutR (H : Hs) (i who : Nat) (held : Int) : Hs :=
  match H.ss[i]? with
  | some (some x) => { H with l := bindL H.g H.l who (-1) (hldM (cutA H.l x.1 who held) who - held), ss := H.ss.set i (some (cutA H.l x.1 who held, x.2)) }
  | _ => H
theorem set_sameZ {α : Type} {l : List α} {i : Nat} {a : α} (h : l[i]? = some a) : l.set i a = l := by
  obtain ⟨h1, h2⟩ := List.getElem?_eq_some_iff.1 h
  rw [← h2]
  exact List.set_getElem_self h1
theorem bid_keeps (A : Clo.Au) (who n : Int) : (A.bid who n).2.state = A.state ∧ (A.bid who n).2.ds.length = A.ds.length := by
  unfold Clo.Au.bid
  split
  · exact ⟨rfl, rfl⟩
  · split
    · exact ⟨rfl, rfl⟩
    · split
      · exact ⟨rfl, rfl⟩
      · simp
theorem cutA_keeps (l : Ks) (A : Clo.Au) (who : Nat) (held : Int) : (cutA l A who held).state = A.state ∧ (cutA l A who held).ds.length = A.ds.length := by
  unfold cutA; split
  · exact bid_keeps _ _ _
  · exact ⟨rfl, rfl⟩
theorem free_bd {w : World} {p pl bl g : Nat} {l : Ks} {mV sV : Value} {now : Int} (h : Ha w p pl bl g l mV sV now) (who : Nat) (hw : who < l.length) : 0 ≤ freeL l who (-1) ∧ freeL l who (-1) ≤ 1099511627776 := by
  unfold freeL
  rw [if_pos rfl]
  have := h.lg.inv.le Led.part0 hw
  rw [Int.toNat_natCast]
  omega
set_option maxRecDepth 100000 in
set_option maxHeartbeats 4000000 in
theorem cut_hs (w : World) {X : Ad} {H : Hs} (h : Hm w base X H) (hB : base ≤ w.heap.size) {i : Nat} {a : Nat × Nat × Nat} {x : Clo.Au × Int} (hi : X.sl[i]? = some (some a)) (hx : H.ss[i]? = some (some x)) (who : Nat) (hw : who < H.l.length) (held : Int) (hh : 0 ≤ held ∧ held ≤ 1152921504606846976) (hp : 1 ≤ x.1.price) :
    Calls Tryz.prog 94 #[.pointer (some ⟨X.p, 0, none⟩), .pointer (some ⟨a.1, 0, none⟩), .int .i64 who, .int .i64 held] w fun e w' => e = .returned (.tuple #[]) ∧ Hm w' base X (cutR H i who held) ∧ Hst w w' X X := by
  obtain ⟨k1, k2, k3⟩ := h.sls.sal i a x hi hx
  obtain ⟨d2, _⟩ := h.ds i x hx
  have c0 : w.cell? ⟨a.1, 0, none⟩ = some (.pointer (some ⟨a.2.1, 0, none⟩)) := k1.cell rfl
  have HFr : Hid (∀ wx, Below w.heap.size w wx → _) := fun wx hx => free_hs wx (h.below hx).ha (who : Int) (-1) (by omega) (by omega) (Or.inl rfl)
  have HPr : Hid (∀ wx, Below w.heap.size w wx → _) := fun wx hb => Clo.price_calls wx (k2.below hb)
  have HWa : Hid (∀ wx, Below w.heap.size w wx → _) := fun wx hb => Clo.wants_ok wx (k2.below hb) (who : Int) (by omega) (by omega)
  have fb := free_bd h.ha who hw
  have dm := k2.inv.dm who (by omega)
  have p0 := k2.inv.price0
  have HH : Hid _ := h
  have Hi : Hid _ := hi
  have Hx : Hid _ := hx
  have hps := k1.lt
  obtain ⟨R, hR⟩ : ∃ R, cutR H i who held = R := ⟨_, rfl⟩
  rw [hR]
  unfold cutR at hR
  rw [hx] at hR
  simp only at hR
  have HR : Hid _ := hR
  have hwl : who < x.1.ds.length := by omega
  rw [Int.toNat_natCast] at HWa
  have HK1 : Hid _ := k1
  have HK2 : Hid _ := k2
  have HQ : Hid (cutQ H.l x.1 who held = (freeL H.l who (-1) + held).tdiv x.1.price) := rfl
  have HCA : Hid (cutA H.l x.1 who held = if cutQ H.l x.1 who held < Clo.nowOf x.1.ds who then (x.1.bid who (cutQ H.l x.1 who held)).2 else x.1) := rfl
  have HCK : Hid _ := cutA_keeps H.l x.1 who held
  obtain ⟨QQ, hQQ⟩ : ∃ QQ, cutQ H.l x.1 who held = QQ := ⟨_, rfl⟩
  rw [hQQ] at HQ HCA
  clear hQQ
  obtain ⟨fr, hfr⟩ : ∃ fr, freeL H.l (who : Int) (-1) = fr := ⟨_, rfl⟩
  rw [hfr] at HQ HFr fb
  obtain ⟨pr, hpr⟩ : ∃ pr, x.1.price = pr := ⟨_, rfl⟩
  rw [hpr] at HQ HPr p0 hp
  obtain ⟨no, hno⟩ : ∃ no, Clo.nowOf x.1.ds who = no := ⟨_, rfl⟩
  rw [hno] at HCA HWa
  have hpz : (pr == 0) = false := by simp; omega
  have hpz2 : ¬ pr = 0 := by omega
  have hw1 : IntKind.i64.wrap (fr + held) = fr + held := by rw [IntKind.wrap_i64]; omega
  have hq0 : 0 ≤ QQ ∧ QQ ≤ fr + held := by
    rw [HQ.out]
    have h0 : 0 ≤ fr + held := by omega
    refine ⟨Int.tdiv_nonneg h0 (by omega), ?_⟩
    rw [Int.tdiv_eq_ediv_of_nonneg h0]
    exact Int.ediv_le_self _ h0
  have hw2 : IntKind.i64.wrap ((fr + held).tdiv pr) = (fr + held).tdiv pr := by rw [← HQ.out, IntKind.wrap_i64]; omega
  clear h hi hx k1 k2 k3 d2 hR hfr hpr hno dm
  go_enter Tryz.func94, Tryz.ntmps94
  go_upto_region 0 with fail
  refine wp_region_held_drew (S := (fun wx => Below w.heap.size w wx)) (by kernel_rfl) ((Below.refl _ _).drew) (fun hS => ?_)
  refine tkG (i := 0) (v := .pointer (some ⟨X.p, 0, none⟩)) rfl hS ?_
  refine tkG (i := 1) (v := .int .i64 who) rfl hS ?_
  refine tkG (i := 3) (v := .int .i64 held) rfl hS ?_
  refine tkG (i := 5) (v := .pointer (some ⟨a.1, 0, none⟩)) rfl hS ?_
  refine tkG (i := 6) (v := .pointer (some ⟨a.1, 0, none⟩)) rfl hS ?_
  refine tkG (i := 7) (v := .pointer (some ⟨a.1, 0, none⟩)) rfl hS ?_
  refine tkH (i := 8) (v := .pointer (some ⟨a.2.1, 0, none⟩)) rfl (fun w3 hS => by have e0 : w3.cell? ⟨a.1, 0, none⟩ = some (.pointer (some ⟨a.2.1, 0, none⟩)) := (hS.cell (p := ⟨a.1, 0, none⟩) hps).trans c0; go_simp) hS ?_
  refine wpAnyH_ready (rs := [2]) (by kernel_rfl) (by simp) ?_
  refine AllReadyH.cons rfl (fun K hK => ?_) AllReadyH.nil
  go_simp
  refine (HFr.out _ hS).mono ?_
  rintro e w2 ⟨rfl, b2⟩
  have b12 : Below w.heap.size w w2 := hS.trans (b2.mono hS.size)
  refine hK.out _ _ b12 (fun hS => ?_)
  clear hK
  refine tkG (i := 4) (v := .int .i64 (fr + held)) rfl hS ?_
  refine wpAnyH_ready (rs := [9]) (by kernel_rfl) (by simp) ?_
  refine AllReadyH.cons rfl (fun K hK => ?_) AllReadyH.nil
  go_simp
  refine (HPr.out _ hS).mono ?_
  rintro e w3 ⟨rfl, b3⟩
  have b13 : Below w.heap.size w w3 := hS.trans (b3.mono hS.size)
  refine hK.out _ _ b13 (fun hS => ?_)
  clear hK
  refine tkH (i := 10) (v := .int .i64 ((fr + held).tdiv pr)) rfl (fun w3 hS => by go_simp; first | done | exact hw2) hS ?_
  refine tkG (i := 11) (v := .int .i64 ((fr + held).tdiv pr)) rfl hS ?_
  refine wpAnyH_done (by kernel_rfl) ?_ _
  rw [← HQ.out]
  have e1 : w3.cell? ⟨a.1, 0, none⟩ = some (.pointer (some ⟨a.2.1, 0, none⟩)) := (b13.cell (p := ⟨a.1, 0, none⟩) hps).trans c0
  have HW3 : Hid _ := HWa.out w3 b13
  clear hw2 hw1 hpz hpz2 HFr HPr HWa c0 b12
  go_wp2_with fail
  refine Calls.mono HW3.out ?_
  rintro e w4 ⟨rfl, b4⟩
  have HB4 : Hid (Below w.heap.size w w4) := b13.trans (b4.mono b13.size)
  have e2 : w4.cell? ⟨a.1, 0, none⟩ = some (.pointer (some ⟨a.2.1, 0, none⟩)) := (b4.cell (p := ⟨a.1, 0, none⟩) (World.block_lt_of_cell? _ _ e1)).trans e1
  have HM4 : Hid _ := HH.out.below HB4.out
  clear b4 e1 b2 b3 b13 hS HW3
  have hsl : i < H.ss.length := (List.getElem?_eq_some_iff.1 Hx.out).1
  obtain ⟨k1, k2, k3⟩ := HM4.out.sls.sal i a x Hi.out Hx.out
  by_cases hlt : QQ < no
  · have hd : decide (QQ < no) = true := decide_eq_true hlt
    have hca := HCA.out
    rw [if_pos hlt] at hca
    have HBi : Hid _ := Clo.bid_calls w4 k2 (who : Int) QQ _ rfl
    have HCE : Hid _ := hca
    clear hlt hca k1 k2 k3
    go_wp2_with fail
    refine Calls.mono HBi.out ?_
    rintro e w5 ⟨rfl, L5, o5⟩
    rw [← HCE.out] at L5
    have HM5 : Hid _ := HM4.out.sal Hi.out Hx.out L5 o5 HCK.out.2
    obtain ⟨m1, m2, _⟩ := HM5.out.1.sls.sal i a (cutA H.l x.1 who held, x.2) Hi.out (by simp [hsl])
    have e3 : w5.cell? ⟨a.1, 0, none⟩ = some (.pointer (some ⟨a.2.1, 0, none⟩)) := m1.cell rfl
    clear L5 o5 m1 m2 HBi e2
    obtain ⟨q1, q2, _⟩ := HM5.out.1.sls.sal i a (cutA H.l x.1 who held, x.2) Hi.out (by simp [hsl])
    have HHd : Hid _ := holds_hs w5 q1 q2 who (by rw [HCK.out.2]; exact hwl)
    have hbd := hld_bd q2.inv (who := who) (by rw [HCK.out.2]; exact hwl)
    obtain ⟨hv, hhv⟩ : ∃ hv, hldM (cutA H.l x.1 who held) who = hv := ⟨_, rfl⟩
    rw [hhv] at HHd hbd HR
    have hb2 := hbd.2.2
    clear q1 q2 hbd hhv
    go_wp2_with fail
    refine Calls.mono HHd.out ?_
    rintro e w6 ⟨rfl, b6⟩
    have HM6 : Hid _ := HM5.out.1.below b6
    have HB6 : Hid (Hst w w6 X X) := ((Hst.of_below HB4.out).trans HM5.out.2).trans (Hst.of_below b6)
    have HBd : Hid _ := bind_hs w6 HM6.out.ha (who : Int) (-1) (hv - held) (by omega) (by omega)
    clear b6 HHd
    go_wp2_with fail
    refine Calls.mono HBd.out ?_
    rintro e w7 ⟨rfl, L7, o7⟩
    have C7 : Chg (fun k => k = X.bl) w6 w7 := Chg.of_off o7 rfl
    have HF := HM6.out.acc (Ha.wide HM6.out.ha L7 C7 (bindL_len _ _ _ _ _)) C7 (bindL_len _ _ _ _ _)
    have HFF : Hid _ := HF
    clear HF L7 o7 C7
    go_wp2
    go_end0
    rw [← HR.out]
    exact ⟨rfl, HFF.out.1, HB6.out.trans HFF.out.2⟩
  · have hd : decide (QQ < no) = false := decide_eq_false hlt
    have hca := HCA.out
    rw [if_neg hlt] at hca
    obtain ⟨w5, hw5⟩ : ∃ w5, w4 = w5 := ⟨_, rfl⟩
    have HM5 : Hid (Hm w5 base X { H with ss := H.ss.set i (some (cutA H.l x.1 who held, x.2)) } ∧ Hst w4 w5 X X) := by
      subst hw5
      rw [hca]
      refine ⟨?_, Hst.of_below (Below.refl _ _)⟩
      have e : H.ss.set i (some (x.1, x.2)) = H.ss := set_sameZ Hx.out
      rw [e]
      exact HM4.out
    clear hlt hca k1 k2 k3
    subst hw5
    obtain ⟨q1, q2, _⟩ := HM5.out.1.sls.sal i a (cutA H.l x.1 who held, x.2) Hi.out (by simp [hsl])
    have HHd : Hid _ := holds_hs w4 q1 q2 who (by rw [HCK.out.2]; exact hwl)
    have hbd := hld_bd q2.inv (who := who) (by rw [HCK.out.2]; exact hwl)
    obtain ⟨hv, hhv⟩ : ∃ hv, hldM (cutA H.l x.1 who held) who = hv := ⟨_, rfl⟩
    rw [hhv] at HHd hbd HR
    have hb2 := hbd.2.2
    clear q1 q2 hbd hhv
    go_wp2_with fail
    refine Calls.mono HHd.out ?_
    rintro e w6 ⟨rfl, b6⟩
    have HM6 : Hid _ := HM5.out.1.below b6
    have HB6 : Hid (Hst w w6 X X) := ((Hst.of_below HB4.out).trans HM5.out.2).trans (Hst.of_below b6)
    have HBd : Hid _ := bind_hs w6 HM6.out.ha (who : Int) (-1) (hv - held) (by omega) (by omega)
    clear b6 HHd
    go_wp2_with fail
    refine Calls.mono HBd.out ?_
    rintro e w7 ⟨rfl, L7, o7⟩
    have C7 : Chg (fun k => k = X.bl) w6 w7 := Chg.of_off o7 rfl
    have HF := HM6.out.acc (Ha.wide HM6.out.ha L7 C7 (bindL_len _ _ _ _ _)) C7 (bindL_len _ _ _ _ _)
    have HFF : Hid _ := HF
    clear HF L7 o7 C7
    go_wp2
    go_end0
    rw [← HR.out]
    exact ⟨rfl, HFF.out.1, HB6.out.trans HFF.out.2⟩
end Go.Proofs.YtpekfpfhonechaaGreat

namespace Go.Proofs.YtpekfpfhonechaaGreat
open Go.RowKit
set_option linter.unusedSimpArgs false
set_option linter.unusedVariables false
variable {base g qs : Nat} {sl : List (Option (Nat × Nat × Nat))} {ss : List (Option (Clo.Au × Int))}

theorem chg_gone {w : World} {q i : Nat} (v : Value) : Chg (fun k => k = q) w (w.setCell ⟨q, i, none⟩ v) :=
  ⟨rfl, rfl, rfl, by simp [World.setCell], fun k hk hn => Below.heap_setCell _ _ _ _ (fun e => hn e)⟩
theorem Sls.gone {w : World} {i : Nat} (h : Sls w base g qs sl ss) (hi : i < g) : Sls (w.setCell ⟨qs, i, none⟩ (.pointer none)) base g qs (sl.set i none) (ss.set i none) := by
  have c : Chg (fun k => k = qs) w (w.setCell ⟨qs, i, none⟩ (.pointer none)) := chg_gone _
  have he := fun ts (h1 : 57 ∉ ts) => Elsw.one (ts := ts) h.row h1
  have hl := h.ns
  have hn := h.nn
  refine ⟨by simpa using h.ns, by simpa using h.nn, ?_, fun j => ?_, fun j b y hb hy => ?_, fun j k b c hb hc hjk => ?_⟩
  · have k := h.row.set i (.pointer none)
    have e : (sl.map ptrS).toArray.setIfInBounds i (.pointer none) = ((sl.set i none).map ptrS).toArray := by
      rw [List.map_set]
      simp [ptrS]
    rwa [e] at k
  · rw [List.getElem?_set, List.getElem?_set]
    split
    · simp [hl, hn, hi]
    · exact h.non j
  · rw [List.getElem?_set] at hb hy
    split at hb
    · next e => subst e; simp [hl, hi] at hb
    · next e =>
      rw [if_neg e] at hy
      obtain ⟨m1, m2, m3⟩ := h.sal j b y hb hy
      exact ⟨m1.chg c (he [66] (by decide) _ _ _ m1 (by simp)), m2.chg c (he [80] (by decide) _ _ _ m2.blk (by simp)) (he [83] (by decide) _ _ _ m2.row (by simp)), m3⟩
  · rw [List.getElem?_set] at hb hc
    split at hb
    · next e => subst e; simp [hl, hi] at hb
    · split at hc
      · next e => subst e; simp [hl, hi] at hc
      · exact h.dis j k b c hb hc hjk
/-- The whole behind a sale that is over. -/
theorem Hm.gone {w : World} {X : Ad} {H : Hs} {i : Nat} (h : Hm w base X H) (hi : i < H.g) :
    Hm (w.setCell ⟨X.qs, i, none⟩ (.pointer none)) base { X with sl := X.sl.set i none } { H with ss := H.ss.set i none } ∧ Hst w (w.setCell ⟨X.qs, i, none⟩ (.pointer none)) X { X with sl := X.sl.set i none } := by
  have c : Chg (fun k => k = X.qs) w (w.setCell ⟨X.qs, i, none⟩ (.pointer none)) := chg_gone _
  have he := fun ts (h1 : 57 ∉ ts) => Elsw.one (ts := ts) h.sls.row h1
  refine ⟨⟨h.ha.chg c (he _ (by decide)), h.mks.chg c (he _ (by decide)), h.sls.gone hi, h.b0, h.n0, fun j y hy => ?_⟩,
    ⟨⟨c.os, c.tape, c.output, c.size, fun k hk hn => c.block k hk (fun e => hn (Or.inr (Or.inr (Or.inl e))))⟩, fun k hk => Or.inl ?_⟩⟩
  · simp only at hy
    rw [List.getElem?_set] at hy
    split at hy
    · next e => subst e; simp [h.sls.nn, hi] at hy
    · exact h.ds j y hy
  · rcases hk with e | e | e | e | ⟨a, ha, e⟩
    · exact Or.inl e
    · exact Or.inr (Or.inl e)
    · exact Or.inr (Or.inr (Or.inl e))
    · exact Or.inr (Or.inr (Or.inr (Or.inl e)))
    · refine Or.inr (Or.inr (Or.inr (Or.inr ⟨a, ?_, e⟩)))
      rcases List.mem_or_eq_of_mem_set ha with m | m
      · exact m
      · cases m
end Go.Proofs.YtpekfpfhonechaaGreat

namespace Go.Proofs.YtpekfpfhonechaaGreat
open Go.RowKit
set_option linter.unusedSimpArgs false
set_option linter.unusedVariables false
variable {base : Nat}

theorem sale_at_bd {A : Clo.Au} (H : Clo.Inv A) {i : Nat} (hi : i < A.ds.length) : 0 ≤ A.saleAt i ∧ A.saleAt i ≤ 2097152 := by
  have d := H.dm i hi
  unfold Clo.Au.saleAt
  split
  · next h1 =>
    split
    · omega
    · next hp =>
      have g := (Clo.Inv.sh H h1 hp).each (i := i) (by rw [Clo.gaps_len]; omega)
      rw [Clo.gaps_at A hi] at g
      omega
  · omega
theorem sale_pr_bd {A : Clo.Au} (H : Clo.Inv A) : 0 ≤ A.saleP ∧ A.saleP ≤ 1099511627776 := by
  have p := H.price0
  have q := H.pr
  have r := H.rd
  have s := H.sp
  have t := H.st
  unfold Clo.Au.saleP
  split
  · split
    · omega
    · next hp =>
      have hr : 1 < A.round := by
        have : A.round ≠ 1 := fun e => hp (Or.inl e)
        omega
      have h6 : (A.round - 1) * A.step = (A.round - 2) * A.step + A.step := by
        have : A.round - 1 = (A.round - 2) + 1 := by omega
        rw [this, Int.add_mul]; omega
      have h7 : 0 ≤ (A.round - 2) * A.step := Int.mul_nonneg (by omega) (by omega)
      unfold Clo.Au.price at *
      omega
  · omega
/-- The accounts when a sale has been settled with the first k bidders. -/
def cloS (g : Nat) (good seller : Int) (pr : Int) (gs hd : Nat → Int) (l : Ks) : Nat → Ks
  | 0 => l
  | k + 1 => bindL g (tradeL g (cloS g good seller pr gs hd l k) good seller k (gs k) pr) k (-1) (gs k * pr - hd k)
theorem cloS_len (g : Nat) (good seller : Int) (pr : Int) (gs hd : Nat → Int) (l : Ks) : ∀ k, (cloS g good seller pr gs hd l k).length = l.length
  | 0 => rfl
  | k + 1 => (bindL_len _ _ _ _ _).trans ((tradeL_len _ _ _ _ _ _ _).trans (cloS_len g good seller pr gs hd l k))
def closeL (g : Nat) (l : Ks) (i : Nat) (x : Clo.Au × Int) (hd : Nat → Int) : Ks :=
  bindL g (cloS g i x.2 x.1.saleP x.1.saleAt hd l x.1.ds.length) x.2 i (-(x.1.supply - Clo.sumTo x.1.saleAt x.1.ds.length))
theorem closeL_len (g : Nat) (l : Ks) (i : Nat) (x : Clo.Au × Int) (hd : Nat → Int) : (closeL g l i x hd).length = l.length :=
  (bindL_len _ _ _ _ _).trans (cloS_len _ _ _ _ _ _ _ _)
theorem sold_bd {f : Nat → Int} {n : Nat} (h : ∀ i, i < n → 0 ≤ f i ∧ f i ≤ 2097152) : ∀ k, k ≤ n → 0 ≤ Clo.sumTo f k ∧ Clo.sumTo f k ≤ 2097152 * k
  | 0, _ => by simp [Clo.sumTo]
  | k + 1, hk => by
    have h1 := sold_bd h k (by omega)
    have h2 := h k (by omega)
    have e : Clo.sumTo f (k + 1) = Clo.sumTo f k + f k := rfl
    rw [e]
    constructor
    · omega
    · have : (2097152 : Int) * ((k + 1 : Nat) : Int) = 2097152 * k + 2097152 := by push_cast; omega
      omega
theorem pay_bd {a f : Int} (h0 : 0 ≤ a) (h1 : a ≤ 2097152) (h2 : 0 ≤ f) (h3 : f ≤ 1099511627776) : 0 ≤ a * f ∧ a * f ≤ 2305843009213693952 := by
  have e1 : a * f ≤ 2097152 * 1099511627776 := Int.mul_le_mul h1 h3 h2 (by decide)
  exact ⟨Int.mul_nonneg h0 h2, by omega⟩
end Go.Proofs.YtpekfpfhonechaaGreat

namespace Go.Proofs.YtpekfpfhonechaaGreat
open Go.RowKit
set_option linter.unusedSimpArgs false
set_option linter.unusedVariables false
variable {base : Nat}

set_option maxRecDepth 100000 in
set_option maxHeartbeats 1500000 in
theorem close_hs (w : World) {X : Ad} {H : Hs} (h : Hm w base X H) (hB : base ≤ w.heap.size) {i : Nat} {a : Nat × Nat × Nat} {x : Clo.Au × Int} (hi : X.sl[i]? = some (some a)) (hx : H.ss[i]? = some (some x)) (hst : x.1.state ≠ 0) {hb : Nat} {hd : Nat → Int} (hH : Blk w hb (Clo.iC (Clo.tab x.1.ds.length hd)) 3) (hbd : ∀ k, k < x.1.ds.length → 0 ≤ hd k ∧ hd k ≤ 1152921504606846976) :
    Calls Tryz.prog 93 #[.pointer (some ⟨X.p, 0, none⟩), .int .i64 i, .slice (some ⟨hb, 0, none⟩) x.1.ds.length x.1.ds.length] w fun e w' => e = .returned (.tuple #[]) ∧ Hm w' base { X with sl := X.sl.set i none } { H with l := closeL H.g H.l i x hd, ss := H.ss.set i none } ∧ Hst w w' X { X with sl := X.sl.set i none } := by
  obtain ⟨k1, k2, k3⟩ := h.sls.sal i a x hi hx
  obtain ⟨d2, d3, d4⟩ := h.ds i x hx
  have hlen := k2.inv.len
  have hsup := k2.inv.sup
  have hil : i < H.g := by have := (List.getElem?_eq_some_iff.1 hi).1; have := h.sls.ns; omega
  have hg4 := h.ha.lg.inv.g4
  have hii : (i : Int) < (H.g : Int) := by omega
  have hiX : i < X.sl.length := (List.getElem?_eq_some_iff.1 hi).1
  have c3 : w.cell? ⟨X.p, 3, none⟩ = some (.slice (some ⟨X.qs, 0, none⟩) H.g H.g) := h.ha.blk.cell rfl
  have cs : w.cell? ⟨X.qs, i, none⟩ = some (.pointer (some ⟨a.1, 0, none⟩)) := h.sls.row.cell (by simp [hi, ptrS])
  have c0 : w.cell? ⟨a.1, 0, none⟩ = some (.pointer (some ⟨a.2.1, 0, none⟩)) := k1.cell rfl
  have HSa : Hid _ := Clo.sale_over w k2 hst
  have HSu : Hid (∀ wx, Below w.heap.size w wx → _) := fun wx hb => Clo.supply_calls wx (k2.below hb)
  have HH : Hid _ := h
  have Hi : Hid _ := hi
  have Hx : Hid _ := hx
  have HK1 : Hid _ := k1
  have HhH : Hid _ := hH
  have HAt : Hid _ := fun k (hk : k < x.1.ds.length) => sale_at_bd k2.inv hk
  have hprb := sale_pr_bd k2.inv
  have HSum : Hid _ := sold_bd (f := x.1.saleAt) (n := x.1.ds.length) (fun i hi => sale_at_bd k2.inv hi)
  have HBd : Hid _ := hbd
  obtain ⟨R, hR⟩ : ∃ R, closeL H.g H.l i x hd = R := ⟨_, rfl⟩
  have HRl : Hid _ := closeL_len H.g H.l i x hd
  rw [hR] at HRl ⊢
  unfold closeL at hR
  have HR : Hid _ := hR
  have HSL : Hid (∀ k, k < x.1.ds.length → (Clo.iC x.1.saleL)[k]? = some (.int .i64 (x.1.saleAt k))) := fun k hk => by
    have h1 : k < x.1.saleL.length := by rw [Clo.saleL_len]; exact hk
    rw [Clo.iC_get h1]
    unfold Clo.Au.saleL
    rw [Clo.tab_at _ hk]
  clear h hi hx k1 k2 k3 hR hH hbd
  generalize hn : x.1.ds.length = n at *
  generalize hsu : x.1.supply = su at *
  generalize hpr : x.1.saleP = pr at *
  clear hn hsu hpr
  go_enter Tryz.func93, Tryz.ntmps93
  go_wp2_with fail
  refine Calls.mono HSa.out ?_
  rintro e w1 ⟨rfl, X1, b1⟩
  have e0 : w1.cell? ⟨a.1, 0, none⟩ = some (.pointer (some ⟨a.2.1, 0, none⟩)) := (b1.cell (p := ⟨a.1, 0, none⟩) (Blk.lt HK1.out)).trans c0
  have HS1 : Hid _ := HSu.out w1 b1
  have HX1 : Hid _ := X1
  have Hb1 : Hid _ := b1
  clear HSa HSu c0 cs c3 X1 b1
  go_wp2_with fail
  refine Calls.mono HS1.out ?_
  rintro e w2 ⟨rfl, rfl⟩
  have HM : Hid _ := HH.out.below Hb1.out
  have HI : Hid (Ha w2 X.p X.pl X.bl H.g (cloS H.g i x.2 pr x.1.saleAt hd H.l 0) (.slice (some ⟨X.qm, 0, none⟩) H.g X.cm) (.slice (some ⟨X.qs, 0, none⟩) H.g H.g) H.now ∧ Chg (fun q => q = X.bl) w2 w2) := ⟨HM.out.ha, Chg.of_below (Below.refl _ _)⟩
  clear e0 HS1
  go_wp2_with fail
  go_loopw [10, 36] (fun lv iv wr => ∃ k : Nat, k ≤ n ∧ iv = .int .i64 k ∧ lv = .int .i64 (su - Clo.sumTo x.1.saleAt k) ∧ Hid (Ha wr X.p X.pl X.bl H.g (cloS H.g i x.2 pr x.1.saleAt hd H.l k) (.slice (some ⟨X.qm, 0, none⟩) H.g X.cm) (.slice (some ⟨X.qs, 0, none⟩) H.g H.g) H.now ∧ Chg (fun q => q = X.bl) w2 wr)) (fun _ iv _ => n - (intOf iv).toNat)
  case atStart => exact ⟨0, Nat.zero_le _, rfl, by simp [Clo.sumTo], HI⟩
  case round =>
    clear HI
    obtain ⟨k, hk, rfl, rfl, HR2⟩ := hrel
    have hzr := HR2.out.2.size
    have hax : a.1 ≠ X.bl := blk_unl (Blk.below HK1.out Hb1.out) HM.out.ha.lg.row (by decide)
    have s1 : wr.cell? ⟨a.1, 1, none⟩ = some (.int .i64 x.2) := HR2.out.2.cell (a := ⟨a.1, 1, none⟩) ((Blk.below HK1.out Hb1.out).cell rfl) hax
    by_cases hlt : k < n
    · have hdd : decide ((k : Int) < (n : Int)) = true := by simp only [decide_eq_true_eq]; omega
      have hd' : (k : Int) < (n : Int) := by omega
      have hgx : w.heap.size ≠ X.bl := blk_unl (show Blk _ _ _ _ from HX1.out) HM.out.ha.lg.row (by decide)
      have hhx : hb ≠ X.bl := blk_unl (Blk.below HhH.out Hb1.out) HM.out.ha.lg.row (by decide)
      have g1 : wr.cell? ⟨w.heap.size, k, none⟩ = some (.int .i64 (x.1.saleAt k)) := HR2.out.2.cell (a := ⟨w.heap.size, k, none⟩) (Blk.cell HX1.out (HSL.out k hlt)) hgx
      have g2 : w2.cell? ⟨hb, k, none⟩ = some (.int .i64 (hd k)) := by
        refine (Blk.below HhH.out Hb1.out).cell ?_
        rw [Clo.iC_get (by rw [Clo.tab_len]; exact hlt), Clo.tab_at _ hlt]
      have HC2 : Hid _ := g2
      have hat := HAt.out k hlt
      have hhd := HBd.out k hlt
      have hs1 := HSum.out k (by omega)
      have hs2 := HSum.out (k + 1) (by omega)
      have hse : Clo.sumTo x.1.saleAt (k + 1) = Clo.sumTo x.1.saleAt k + x.1.saleAt k := rfl
      have HCS : Hid (cloS H.g i x.2 pr x.1.saleAt hd H.l (k + 1) = bindL H.g (tradeL H.g (cloS H.g i x.2 pr x.1.saleAt hd H.l k) i x.2 k (x.1.saleAt k) pr) k (-1) (x.1.saleAt k * pr - hd k)) := rfl
      have hpb := pay_bd hat.1 hat.2 hprb.1 hprb.2
      rw [hse] at hs2
      obtain ⟨nn, hnn⟩ : ∃ nn, x.1.saleAt k = nn := ⟨_, rfl⟩
      rw [hnn] at g1 hat hs2 HCS hpb hse
      obtain ⟨sm, hsm⟩ : ∃ sm, Clo.sumTo x.1.saleAt k = sm := ⟨_, rfl⟩
      rw [hsm] at hs1 hs2 hse ⊢
      have HSE : Hid _ := hse
      have hwr : IntKind.i64.wrap (nn * pr) = nn * pr := by rw [IntKind.wrap_i64]; omega
      have HT : Hid _ := trade_hs wr HR2.out.1 i x.2 k nn pr hwr
      have hw2 : IntKind.i64.wrap (nn * pr - hd k) = nn * pr - hd k := by rw [IntKind.wrap_i64]; omega
      have hw3 : IntKind.i64.wrap (su - sm - nn) = su - sm - nn := by rw [IntKind.wrap_i64]; omega
      obtain ⟨m, hm⟩ : ∃ m, nn * pr = m := ⟨_, rfl⟩
      have hwm : IntKind.i64.wrap (nn * pr) = m := hwr.trans hm
      rw [hm] at hw2 hpb HCS
      clear hwr
      clear hnn hsm hse g2 hm
      go_wp2_with fail
      refine Calls.mono HT.out ?_
      rintro e w4 ⟨rfl, L4, o4⟩
      have C4 : Chg (fun q => q = X.bl) wr w4 := Chg.of_off o4 rfl
      have HA4 : Hid _ := Ha.wide HR2.out.1 L4 C4 (tradeL_len _ _ _ _ _ _ _)
      have HC4 : Hid (Chg (fun q => q = X.bl) w2 w4) := HR2.out.2.trans (fun q hq => Or.inl hq) C4
      have g3 : w4.cell? ⟨hb, k, none⟩ = some (.int .i64 (hd k)) := HC4.out.cell (a := ⟨hb, k, none⟩) HC2.out hhx
      have HBi : Hid _ := bind_hs w4 HA4.out k (-1) (m - hd k) (by omega) (by omega)
      clear L4 o4 C4 HT s1 g1 HR2
      go_wp2_with fail
      refine Calls.mono HBi.out ?_
      rintro e w5 ⟨rfl, L5, o5⟩
      have C5 : Chg (fun q => q = X.bl) w4 w5 := Chg.of_off o5 rfl
      have HF : Hid (Ha w5 X.p X.pl X.bl H.g (cloS H.g i x.2 pr x.1.saleAt hd H.l (k + 1)) (.slice (some ⟨X.qm, 0, none⟩) H.g X.cm) (.slice (some ⟨X.qs, 0, none⟩) H.g H.g) H.now ∧ Chg (fun q => q = X.bl) w2 w5) :=
        ⟨by rw [HCS.out]; exact Ha.wide HA4.out L5 C5 (bindL_len _ _ _ _ _), HC4.out.trans (fun q hq => Or.inl hq) C5⟩
      clear L5 o5 C5 HBi g3
      go_wp2
      exact ⟨⟨k + 1, by omega, by norm_cast, by rw [HSE.out]; congr 1; omega, HF⟩, by simp [intOf]; omega⟩
    · have hdd : decide ((n : Int) < (n : Int)) = false := by simp only [decide_eq_false_iff_not]; omega
      have hkn : k = n := by omega
      rw [hkn] at HR2 ⊢
      have hs1 := HSum.out n (by omega)
      obtain ⟨sm, hsm⟩ : ∃ sm, Clo.sumTo x.1.saleAt n = sm := ⟨_, rfl⟩
      rw [hsm] at hs1 HR ⊢
      have hwn : IntKind.i64.wrap (-(su - sm)) = -(su - sm) := by rw [IntKind.wrap_i64]; omega
      have HBi : Hid _ := bind_hs wr HR2.out.1 x.2 i (-(su - sm)) (by omega) (by omega)
      rw [HR.out] at HBi
      clear hsm hkn hlt
      go_wp2_with fail
      refine Calls.mono HBi.out ?_
      rintro e w5 ⟨rfl, L5, o5⟩
      have C5 : Chg (fun q => q = X.bl) wr w5 := Chg.of_off o5 rfl
      have HA5 := Ha.wide HR2.out.1 L5 C5 (HRl.out.trans (cloS_len _ _ _ _ _ _ _ _).symm)
      have HM5 : Hid _ := HM.out.acc HA5 (HR2.out.2.trans (fun q hq => Or.inl hq) C5) HRl.out
      have c3 : w5.cell? ⟨X.p, 3, none⟩ = some (.slice (some ⟨X.qs, 0, none⟩) H.g H.g) := HA5.blk.cell rfl
      have cs : w5.cell? ⟨X.qs, i, none⟩ = some (.pointer (some ⟨a.1, 0, none⟩)) := HM5.out.1.sls.row.cell (by simp [Hi.out, ptrS])
      have f0 : w5.frozen? ⟨X.qs, i, none⟩ = false := HM5.out.1.sls.row.frozen
      obtain ⟨W6, hW6, M6, T6⟩ : ∃ W6, w5.setCell ⟨X.qs, i, none⟩ (.pointer none) = W6 ∧ Hm W6 base { X with sl := X.sl.set i none } { H with l := R, ss := H.ss.set i none } ∧ Hst w5 W6 X { X with sl := X.sl.set i none } := ⟨_, rfl, (HM5.out.1.gone hil).1, (HM5.out.1.gone hil).2⟩
      have HM6 : Hid _ := M6
      have HT6 : Hid _ := T6
      clear L5 o5 C5 HA5 M6 T6 HBi HR2
      go_wp2_with fail
      go_end0
      exact ⟨rfl, HM6.out, ((Hst.of_below Hb1.out).trans HM5.out.2).trans HT6.out⟩
end Go.Proofs.YtpekfpfhonechaaGreat

namespace Go.Proofs.YtpekfpfhonechaaGreat
set_option linter.unusedSimpArgs false
set_option linter.unusedVariables false

theorem bid_price (A : Clo.Au) (who n : Int) : (A.bid who n).2.price = A.price := by
  unfold Clo.Au.bid
  split
  · rfl
  · split
    · rfl
    · split <;> rfl
theorem cutA_price (l : Ks) (A : Clo.Au) (who : Nat) (held : Int) : (cutA l A who held).price = A.price := by
  unfold cutA; split
  · exact bid_price _ _ _
  · rfl
theorem cutR_at {H : Hs} {i : Nat} {x : Clo.Au × Int} (hx : H.ss[i]? = some (some x)) (who : Nat) (held : Int) :
    (cutR H i who held).ss[i]? = some (some (cutA H.l x.1 who held, x.2)) ∧ (cutR H i who held).l.length = H.l.length ∧ (cutR H i who held).g = H.g ∧ (cutR H i who held).now = H.now ∧ (cutR H i who held).ms = H.ms ∧ (cutR H i who held).ss.length = H.ss.length := by
  have hl := (List.getElem?_eq_some_iff.1 hx).1
  unfold cutR
  rw [hx]
  simp only
  exact ⟨by simp [hl], bindL_len _ _ _ _ _, trivial, trivial, trivial, by simp⟩
/-- The whole when the first k bidders have been cut. -/
def cutN (H : Hs) (i : Nat) (hd : Nat → Int) : Nat → Hs
  | 0 => H
  | k + 1 => cutR (cutN H i hd k) i k (hd k)
theorem cutN_at {H : Hs} {i : Nat} {x : Clo.Au × Int} (hx : H.ss[i]? = some (some x)) (hd : Nat → Int) : ∀ k,
    (∃ A, (cutN H i hd k).ss[i]? = some (some (A, x.2)) ∧ A.price = x.1.price ∧ A.state = x.1.state ∧ A.ds.length = x.1.ds.length) ∧ (cutN H i hd k).l.length = H.l.length ∧ (cutN H i hd k).g = H.g ∧ (cutN H i hd k).now = H.now
  | 0 => ⟨⟨x.1, hx, rfl, rfl, rfl⟩, rfl, rfl, rfl⟩
  | k + 1 => by
    obtain ⟨⟨A, h1, h2, h3, h4⟩, h5, h6, h7⟩ := cutN_at hx hd k
    obtain ⟨k1, k2, k3, k4, _⟩ := cutR_at h1 k (hd k)
    have c := cutA_keeps (cutN H i hd k).l A k (hd k)
    exact ⟨⟨_, k1, (cutA_price _ _ _ _).trans h2, c.1.trans h3, c.2.trans h4⟩, k2.trans h5, k3.trans h6, k4.trans h7⟩
def endR (H : Hs) (i : Nat) : Hs :=
  match H.ss[i]? with
  | some (some x) =>
    if x.1.next.1 then { H with l := closeL H.g H.l i (x.1.next.2.2, x.2) (hldM x.1), ss := H.ss.set i none }
    else cutN { H with ss := H.ss.set i (some (x.1.next.2.2, x.2)) } i (hldM x.1) x.1.ds.length
  | _ => H
theorem next_open {A : Clo.Au} (h : Clo.Inv A) (h0 : A.state = 0) (hn : A.next.1 = false) : 1 ≤ A.next.2.2.price ∧ A.next.2.2.state = 0 := by
  have p := h.price0
  have s := h.sp
  unfold Clo.Au.next at hn ⊢
  rw [if_neg (by omega)] at hn ⊢
  split at hn
  · cases hn
  · next h1 =>
    rw [if_neg h1]
    split at hn
    · cases hn
    · next h2 =>
      rw [if_neg h2]
      have e : A.begin.price = A.price + A.step := by
        unfold Clo.Au.begin Clo.Au.price
        have e2 : A.round + 1 - 1 = (A.round - 1) + 1 := by omega
        simp only
        rw [e2, Int.add_mul]
        omega
      have e3 : A.begin.state = A.state := rfl
      exact ⟨by show 1 ≤ A.begin.price; omega, e3.trans h0⟩
theorem next_over {A : Clo.Au} (hn : A.next.1 = true) : A.next.2.2.state ≠ 0 ∧ A.next.2.2.ds = A.ds := by
  unfold Clo.Au.next at hn ⊢
  split at hn
  · cases hn
  · next h0 =>
    rw [if_neg h0]
    split at hn
    · next h1 => rw [if_pos h1]; exact ⟨by simp, rfl⟩
    · next h1 =>
      rw [if_neg h1]
      split at hn
      · next h2 => rw [if_pos h2]; exact ⟨by simp, rfl⟩
      · cases hn
end Go.Proofs.YtpekfpfhonechaaGreat
