/- What is held and locked, behind a market's clearing. -/
import Derived.Test.YtpekfpfhonechaaGreatWa47
namespace Go.Proofs.YtpekfpfhonechaaGreat
set_option linter.unusedSimpArgs false
set_option linter.unusedVariables false

/-- What an order holds, and locks, of a client for each piece. -/
def hT (w : Nat) (o : Cal.Od) : Int := if o.own = (w : Int) ∧ o.by = true then o.pr else 0
def lT (w : Nat) (o : Cal.Od) : Int := if o.own = (w : Int) ∧ o.by = false then 1 else 0
theorem hT_am (w : Nat) (o : Cal.Od) (n : Int) : hT w (Cal.Od.setAm o n) = hT w o := rfl
theorem lT_am (w : Nat) (o : Cal.Od) (n : Int) : lT w (Cal.Od.setAm o n) = lT w o := rfl
theorem hT_nn {B : Cal.Bo} (h : Cal.BInv B) (w : Nat) {o : Cal.Od} (ho : o ∈ B.os) : 0 ≤ hT w o := by
  unfold hT; split
  · exact (may_pr (h.may o ho)).1
  · exact Int.le_refl _
theorem lT_nn (w : Nat) (o : Cal.Od) : 0 ≤ lT w o := by unfold lT; split <;> omega
def isB (B : Cal.Bo) (f : Cal.Fi) : Bool := (igt (limM B.os) f.1).isSome
def qF (B : Cal.Bo) (f : Cal.Fi) : Int := (igt (limM B.os) f.1).getD 0
def cR (B : Cal.Bo) (w : Nat) (f : Cal.Fi) : Int := if isB B f = true ∧ f.2.1 = (w : Int) then qF B f - (Cal.crs B.os).1 else 0
def cH (B : Cal.Bo) (w : Nat) (f : Cal.Fi) : Int := if isB B f = true ∧ f.2.1 = (w : Int) then qF B f else 0
def cL (B : Cal.Bo) (w : Nat) (f : Cal.Fi) : Int := if isB B f = false ∧ f.2.1 = (w : Int) then 1 else 0
/-- A fill is of an order on its side. -/
theorem fl_side {B : Cal.Bo} (h : Cal.BInv B) {f : Cal.Fi} (hf : f ∈ B.fl) : ∃ o ∈ B.os, f.1 = o.id ∧ f.2.1 = o.own ∧ isB B f = o.by ∧ (o.by = true → qF B f = o.pr ∧ (Cal.crs B.os).1 ≤ o.pr) := by
  obtain ⟨o, ho, e1, e2, _⟩ := Cal.fills_mem h hf
  refine ⟨o, ho, e1, e2, ?_, fun hb => ?_⟩
  · unfold isB
    cases hb : o.by with
    | true => rw [e1, show igt (limM B.os) o.id = some o.pr from fold_some _ _ o h.ids ho hb]; rfl
    | false =>
      have : igt (limM B.os) f.1 = none := fold_none B.os [] f.1 (fun y hy e => by
        have : y = o := h.same hy ho (e.trans e1)
        rw [this]; exact hb)
      rw [this]; rfl
  · refine ⟨?_, (Cal.fl_of h hf ho e1).2.2.2.1 hb⟩
    unfold qF
    rw [e1, show igt (limM B.os) o.id = some o.pr from fold_some _ _ o h.ids ho hb]
    rfl
theorem fl_nn {B : Cal.Bo} (h : Cal.BInv B) (w : Nat) : ∀ f ∈ B.fl, 0 ≤ cR B w f ∧ 0 ≤ f.2.2 := by
  intro f hf
  obtain ⟨o, ho, _, _, e3, e4⟩ := fl_side h hf
  refine ⟨?_, (fl_bd h hf).1 |> fun h => by omega⟩
  unfold cR
  split
  · next hb =>
    have := e4 (by rw [← e3]; exact hb.1)
    omega
  · exact Int.le_refl _
theorem fl_sum {B : Cal.Bo} (h : Cal.BInv B) (w : Nat) : gsum (hT w) B.fl B.os = fsum (cH B w) B.fl ∧ gsum (lT w) B.fl B.os = fsum (cL B w) B.fl := by
  refine ⟨gsum_fsum h.ids B.fl fun f hf => ?_, gsum_fsum h.ids B.fl fun f hf => ?_⟩
  · obtain ⟨o, ho, e1, e2, e3, e4⟩ := fl_side h hf
    refine ⟨o, ho, e1, ?_⟩
    unfold cH hT
    rw [e2, e3]
    by_cases hc : o.own = (w : Int) ∧ o.by = true
    · rw [if_pos ⟨hc.2, hc.1⟩, if_pos hc, (e4 hc.2).1]
    · rw [if_neg (fun h => hc ⟨h.2, h.1⟩), if_neg hc]
  · obtain ⟨o, ho, e1, e2, e3, e4⟩ := fl_side h hf
    refine ⟨o, ho, e1, ?_⟩
    unfold cL lT
    rw [e2, e3]
    by_cases hc : o.own = (w : Int) ∧ o.by = false
    · rw [if_pos ⟨hc.2, hc.1⟩, if_pos hc]
    · rw [if_neg (fun h => hc ⟨h.2, h.1⟩), if_neg hc]
theorem buys_sum (B : Cal.Bo) (w : Nat) : ∀ fs : List Cal.Fi, (Cal.crs B.os).1 * amO w (fs.filter fun f => isB B f) + fsum (cR B w) fs = fsum (cH B w) fs
  | [] => by simp [amO, fsum]
  | f :: r => by
    have ih := buys_sum B w r
    simp only [fsum]
    by_cases hb : isB B f = true
    · rw [List.filter_cons_of_pos (by simpa using hb), amO_cons]
      unfold cR cH
      unfold cR cH at ih
      by_cases hw : f.2.1 = (w : Int)
      · rw [if_pos hw, if_pos ⟨hb, hw⟩, if_pos ⟨hb, hw⟩, Int.mul_add, Int.sub_mul]
        omega
      · rw [if_neg hw, if_neg (fun h => hw h.2), if_neg (fun h => hw h.2), Int.zero_add, Int.zero_mul]
        omega
    · rw [List.filter_cons_of_neg (by simpa using hb)]
      unfold cR cH
      unfold cR cH at ih
      rw [if_neg (fun h => hb h.1), if_neg (fun h => hb h.1), Int.zero_mul]
      omega
theorem sells_sum (B : Cal.Bo) (w : Nat) : ∀ fs : List Cal.Fi, amO w (fs.filter fun f => !isB B f) = fsum (cL B w) fs
  | [] => rfl
  | f :: r => by
    have ih := sells_sum B w r
    simp only [fsum]
    by_cases hb : isB B f = true
    · rw [List.filter_cons_of_neg (by simpa using hb), ih]
      unfold cL
      rw [if_neg (fun h => by rw [hb] at h; cases h.1)]
      omega
    · rw [List.filter_cons_of_pos (by simpa using hb), amO_cons, ih]
      have hb' : isB B f = false := by simpa using hb
      unfold cL
      by_cases hw : f.2.1 = (w : Int)
      · rw [if_pos hw, if_pos ⟨hb', hw⟩]; omega
      · rw [if_neg hw, if_neg (fun h => hw h.2)]; omega
/-- Buyers hold what they pay, no more. -/
theorem clrS_bl {g : Nat} {l : Ks} {B : Cal.Bo} (h : Cal.BInv B) {hc : Nat → Int} {lk : Nat → Nat → Int} (hb : Bl g l hc lk) (hown : ∀ f ∈ B.fl, ∃ w : Nat, f.2.1 = w ∧ w < l.length)
    (hle : ∀ w, w < l.length → fsum (cR B w) B.fl ≤ hc w ∧ hc w ≤ 1099511627776) : ∀ k, k ≤ B.fl.length → Bl g (clrS g l B k).1 (fun w => hc w - fsum (cR B w) (B.fl.take k)) lk
  | 0, _ => hb.congr (fun w hw => by simp [fsum]) (fun _ _ _ _ => rfl)
  | k + 1, hk => by
    have ih := clrS_bl h hb hown hle k (by omega)
    have hlen := (clrS_parts g l B k (by omega)).1
    have hf : B.fl[k] ∈ B.fl := List.getElem_mem (by omega)
    have hs : ∀ w, fsum (cR B w) (B.fl.take (k + 1)) = fsum (cR B w) (B.fl.take k) + cR B w B.fl[k] * B.fl[k].2.2 := fun w => by
      rw [List.take_succ_eq_append_getElem (by omega), fsum_app]
      simp [fsum]
    rw [clrS_succ g l B k (by omega)]
    unfold stepF
    obtain ⟨w0, hw0, hl0⟩ := hown _ hf
    cases hi : igt (limM B.os) B.fl[k].1 with
    | none =>
      simp only
      refine ih.congr (fun w hw => ?_) (fun _ _ _ _ => rfl)
      rw [hs w]
      have : cR B w B.fl[k] = 0 := by
        unfold cR isB
        rw [hi, if_neg (fun h => by cases h.1)]
      rw [this]; omega
    | some q =>
      simp only
      have hB : isB B B.fl[k] = true := by unfold isB; rw [hi]; rfl
      have hq : qF B B.fl[k] = q := by unfold qF; rw [hi]; rfl
      have hR : cR B w0 B.fl[k] = q - (Cal.crs B.os).1 := by unfold cR; rw [if_pos ⟨hB, hw0⟩, hq]
      have hn : ((Cal.crs B.os).1 - q) * B.fl[k].2.2 = -(cR B w0 B.fl[k] * B.fl[k].2.2) := by
        rw [hR, Int.sub_mul, Int.sub_mul]; omega
      have hnn := fl_nn h w0 _ hf
      have hp := Int.mul_nonneg hnn.1 hnn.2
      have ht := fsum_take (fun f hf => fl_nn h w0 f hf) (k + 1)
      have ht0 := fsum_nn (c := cR B w0) (B.fl.take k) (fun f hf => fl_nn h w0 f (List.mem_of_mem_take hf))
      rw [hs w0] at ht
      have hl := hle w0 hl0
      rw [hw0, hn]
      have hbi := ih.bind1 (w := w0) (by omega) (-(cR B w0 B.fl[k] * B.fl[k].2.2)) (by omega) (by omega) (fun h => by omega)
      refine hbi.congr (fun w hw => ?_) (fun _ _ _ _ => rfl)
      unfold up1
      rw [hs w]
      by_cases e : w = w0
      · rw [if_pos e, e]
        (try dsimp only)
        omega
      · rw [if_neg e]
        (try dsimp only)
        have : cR B w B.fl[k] = 0 := by
          unfold cR
          rw [if_neg (fun h => by have := h.2; omega)]
        rw [this]; omega
/-- A market's clearing. -/
theorem clrL_bl {g : Nat} (hg : g ≤ 4) {i : Nat} (hi : i < g) {l : Ks} {B : Cal.Bo} (h : Cal.BInv B) {hc : Nat → Int} {lk : Nat → Nat → Int} (hb : Bl g l hc lk) (hown : ∀ o ∈ B.os, ∃ w : Nat, o.own = w ∧ w < l.length)
    (h1 : ∀ w, w < l.length → wsum (hT w) B.os ≤ hc w ∧ hc w ≤ 1099511627776) (h2 : ∀ w, w < l.length → wsum (lT w) B.os ≤ lk w i ∧ lk w i ≤ 1099511627776) :
    Bl g (clrL g i l B) (fun w => hc w - wsum (hT w) B.os + wsum (hT w) B.clr.os) (fun w j => if j = i then lk w j - wsum (lT w) B.os + wsum (lT w) B.clr.os else lk w j) := by
  have hof : ∀ f ∈ B.fl, ∃ w : Nat, f.2.1 = w ∧ w < l.length := fun f hf => by
    obtain ⟨o, ho, _, e2, _⟩ := fl_side h hf
    rw [e2]
    exact hown o ho
  have hgh : ∀ w, gsum (hT w) B.fl B.os ≤ wsum (hT w) B.os := fun w => (gsum_le B.os fun o ho => ⟨hT_nn h w ho, Cal.got_bd h _ _ ho⟩).2
  have hgl : ∀ w, gsum (lT w) B.fl B.os ≤ wsum (lT w) B.os := fun w => (gsum_le B.os fun o ho => ⟨lT_nn w o, Cal.got_bd h _ _ ho⟩).2
  have hp := crs_pr B.os
  obtain ⟨c1, c2, c3⟩ := clrS_parts g l B _ (Nat.le_refl _)
  obtain ⟨p1, p2, _, _⟩ := clr_pos (g := g) (l := l) h
  have hev := clr_even (g := g) (l := l) h
  have hS := clrS_bl h hb hof (fun w hw => by
    have e := buys_sum B w B.fl
    have e2 := (fl_sum h w).1
    have e3 := hgh w
    have e4 := h1 w hw
    have e5 := Int.mul_nonneg hp.1 (amO_nn (w := w) (fs := B.fl.filter fun f => isB B f) (fun f hf => fl_bd h (List.mem_filter.1 hf).1))
    omega) _ (Nat.le_refl _)
  rw [List.take_length] at hS c2 c3
  unfold clrL
  generalize hL : (clrS g l B B.fl.length).1 = l1 at *
  generalize hb2 : (clrS g l B B.fl.length).2.1 = bs at *
  generalize hs2 : (clrS g l B B.fl.length).2.2 = ss at *
  have hbm : bs = B.fl.filter fun f => isB B f := c2
  have hsm : ss = B.fl.filter fun f => !isB B f := c3
  have hset := setl_bl hg hi hp.1 (bs.length + ss.length) l1 bs ss _ _ hS p1 p2 hev (Nat.le_refl _)
    (fun f hf => by rw [c1]; exact hof f (List.mem_filter.1 (hbm ▸ hf)).1) (fun f hf => by rw [c1]; exact hof f (List.mem_filter.1 (hsm ▸ hf)).1)
    (fun w hw => by
      rw [c1] at hw
      have e := buys_sum B w B.fl
      have e2 := (fl_sum h w).1
      have e3 := hgh w
      have e4 := h1 w hw
      have e5 := fsum_nn (c := cR B w) B.fl (fun f hf => fl_nn h w f hf)
      rw [hbm]
      (try dsimp only)
      omega)
    (fun w hw => by
      rw [c1] at hw
      have e := sells_sum B w B.fl
      have e2 := (fl_sum h w).2
      have e3 := hgl w
      have e4 := h2 w hw
      rw [hsm]
      omega)
  refine hset.congr (fun w hw => ?_) (fun w hw j hj => ?_)
  · have e := buys_sum B w B.fl
    have e2 := (fl_sum h w).1
    have e3 := wsum_clr (hT_am w) B
    rw [hbm]
    (try dsimp only)
    omega
  · split
    · have e := sells_sum B w B.fl
      have e2 := (fl_sum h w).2
      have e3 := wsum_clr (lT_am w) B
      rw [hsm]
      omega
    · rfl
end Go.Proofs.YtpekfpfhonechaaGreat

namespace Go.Proofs.YtpekfpfhonechaaGreat
set_option linter.unusedSimpArgs false
set_option linter.unusedVariables false

theorem Ivb {g : Nat} {l : Ks} (h : Led.Inv g l) (who thing n : Int) : Led.Inv g (bindL g l who thing n) := by
  have hg := h.g4
  have hgt : ∀ (e : Int) (r : Int × Ks), (e = 0 → Led.Inv g r.2) → Led.Inv g (Led.gate e l r).2 := fun e r hr => by
    unfold Led.gate
    split
    · next he => exact hr he
    · exact h
  have hk : ∀ (i a b : Nat) (m : Int), i < l.length → Led.Part a b → 1 ≤ m → Led.Inv g (Led.keepR l i a b m).2 := fun i a b m hi p hm => by
    unfold Led.keepR
    split
    · exact h
    · have := h.held i hi a b p
      exact h.setH p hi (by omega) (by omega)
  have hl : ∀ (i a b : Nat) (m : Int), i < l.length → Led.Part a b → 1 ≤ m → Led.Inv g (Led.looseR l i b m).2 := fun i a b m hi p hm => by
    unfold Led.looseR
    split
    · exact h
    · have := h.held i hi a b p
      exact h.setH p hi (by omega) (by omega)
  unfold bindL
  split
  · split
    · refine hgt _ _ fun e => ?_
      obtain ⟨i, rfl, hi, hm, _⟩ := Led.refE_one e
      exact hk _ _ _ _ (by simpa using hi) Led.part0 hm
    · refine hgt _ _ fun e => ?_
      obtain ⟨i, rfl, hi, hm, _⟩ := Led.refE_one e
      exact hl _ _ _ _ (by simpa using hi) Led.part0 hm
  · split
    · refine hgt _ _ fun e => ?_
      obtain ⟨e2, q, rfl, hq⟩ := Led.refG_ok e
      obtain ⟨i, rfl, hi, hm, _⟩ := Led.refE_one e2
      exact hk _ _ _ _ (by simpa using hi) (partGd (by simp; omega)) hm
    · refine hgt _ _ fun e => ?_
      obtain ⟨e2, q, rfl, hq⟩ := Led.refG_ok e
      obtain ⟨i, rfl, hi, hm, _⟩ := Led.refE_one e2
      exact hl _ _ _ _ (by simpa using hi) (partGd (by simp; omega)) hm
theorem Ivo {g : Nat} {l : Ks} (h : Led.Inv g l) {e : Int} {i j a b : Nat} {n : Int} (he : e = 0 → i < l.length ∧ j < l.length ∧ 1 ≤ n ∧ Led.Part a b ∧ a < g + 2) : Led.Inv g (Led.gate e l (Led.overR l i j a b n)).2 := by
  unfold Led.gate
  split
  · next h0 =>
    obtain ⟨hi, hj, hn, p, ha⟩ := he h0
    unfold Led.overR
    split
    · exact h
    · exact h.ov3 p ha hi hj (by omega) (by omega)
  · exact h
theorem Ivt {g : Nat} {l : Ks} (h : Led.Inv g l) (good s q n p : Int) : Led.Inv g (tradeL g l good s q n p) := by
  have hg := h.g4
  have hg1 := h.g1
  have h1 : Led.Inv g (tradeL1 l s q n p) := by
    unfold tradeL1
    refine Ivo h fun e => ?_
    obtain ⟨i, j, rfl, rfl, hi, hj, hm, _⟩ := Led.refE_two e
    exact ⟨by simpa using hi, by simpa using hj, hm, Led.part0, by omega⟩
  unfold tradeL
  refine Ivo h1 fun e => ?_
  obtain ⟨e2, r, rfl, hr⟩ := Led.refG_ok e
  obtain ⟨i, j, rfl, rfl, hi, hj, hm, _⟩ := Led.refE_two e2
  exact ⟨by simpa using hi, by simpa using hj, hm, partGd (by simp; omega), by simp; omega⟩
theorem Ivs {g : Nat} (good p : Int) : ∀ (k : Nat) (l : Ks) (b s : List Cal.Fi), Led.Inv g l → Led.Inv g (setl g good p k l b s)
  | 0, l, b, s, h => h
  | k + 1, l, [], s, h => h
  | k + 1, l, b :: bs, [], h => h
  | k + 1, l, b :: bs, s :: ss, h => Ivs good p k _ _ _ (Ivt h _ _ _ _ _)
theorem Ivc {g : Nat} {l : Ks} (h : Led.Inv g l) (i : Int) (B : Cal.Bo) : Led.Inv g (clrL g i l B) := by
  have h1 : ∀ k, k ≤ B.fl.length → Led.Inv g (clrS g l B k).1 := by
    intro k
    induction k with
    | zero => intro _; exact h
    | succ k ih =>
      intro hk
      have := ih (by omega)
      rw [clrS_succ g l B k (by omega)]
      unfold stepF
      split
      · dsimp only
        exact Ivb this _ _ _
      · exact this
  unfold clrL
  exact Ivs _ _ _ _ _ _ (h1 _ (Nat.le_refl _))
theorem Ivcl {g : Nat} {l : Ks} (h : Led.Inv g l) (i : Nat) (x : Clo.Au × Int) (hd : Nat → Int) : Led.Inv g (closeL g l i x hd) := by
  have h1 : ∀ k, Led.Inv g (cloS g i x.2 x.1.saleP x.1.saleAt hd l k) := by
    intro k
    induction k with
    | zero => exact h
    | succ k ih => exact Ivb (Ivt ih _ _ _ _ _) _ _ _
  unfold closeL
  exact Ivb (h1 _) _ _ _

theorem sumTo_set {f f' : Nat → Int} {i : Nat} (h : ∀ j, j ≠ i → f' j = f j) : ∀ k, Clo.sumTo f' k = Clo.sumTo f k + if i < k then f' i - f i else 0
  | 0 => by simp [Clo.sumTo]
  | k + 1 => by
    rw [Clo.sumTo, Clo.sumTo, sumTo_set h k]
    by_cases e : k = i
    · subst e
      rw [if_neg (by omega), if_pos (by omega)]; omega
    · rw [h k e]
      by_cases hk : i < k
      · rw [if_pos hk, if_pos (by omega)]; omega
      · rw [if_neg hk, if_neg (by omega)]; omega
/-- What a client's bid at a good holds; what an auction locks of its seller. -/
def hSa (H : Hs) (w i : Nat) : Int := match H.ss[i]? with
  | some (some x) => hldM x.1 w
  | _ => 0
def lSa (H : Hs) (w i : Nat) : Int := match H.ss[i]? with
  | some (some x) => if x.2 = (w : Int) then x.1.supply else 0
  | _ => 0
def hI (H : Hs) (w i : Nat) : Int := wsum (hT w) (H.book i).os + hSa H w i
def hcB (H : Hs) (w : Nat) : Int := Clo.sumTo (hI H w) H.g
def lkB (H : Hs) (w i : Nat) : Int := wsum (lT w) (H.book i).os + lSa H w i
/-- An order's number tells whose it is. -/
def OdN (n : Nat) (o : Cal.Od) : Prop := ∃ w x : Nat, o.own = w ∧ w < n ∧ o.id = 16 * (x : Int) + w ∧ x ≤ 1048576
/-- A house such as stands in memory, as data. -/
structure Gd (H : Hs) : Prop where
  inv : Led.Inv H.g H.l
  nm : H.ms.length = H.g
  ns : H.ss.length = H.g
  bk : ∀ i, Cal.BInv (H.book i)
  pst : Pst H
  ds : ∀ (i : Nat) x, H.ss[i]? = some (some x) → x.1.ds.length = H.l.length ∧ 0 ≤ x.2 ∧ x.2 < H.l.length
structure Bal (H : Hs) : Prop where
  b : Bl H.g H.l (hcB H) (lkB H)
  od : ∀ i, ∀ o ∈ (H.book i).os, OdN H.l.length o
theorem Hm.gd {w : World} {base : Nat} {X : Ad} {H : Hs} (h : Hm w base X H) (hp : Pst H) : Gd H := by
  refine ⟨h.ha.lg.inv, h.mks.nm, h.sls.nn, fun i => ?_, hp, h.ds⟩
  cases hB : H.ms[i]? with
  | none => unfold Hs.book; rw [hB]; exact Cal.binv_new
  | some B =>
    obtain ⟨b, hb⟩ := get_both hB (h.mks.nb.trans h.mks.nm.symm)
    have e : H.book i = B := by unfold Hs.book; rw [hB]; rfl
    rw [e]
    exact (h.mks.bk i b B hb hB).inv
theorem hSa_nn {H : Hs} (gd : Gd H) {w : Nat} (hw : w < H.l.length) (i : Nat) : 0 ≤ hSa H w i := by
  unfold hSa
  split
  · next x hx =>
    exact (hld_bd (gd.pst i x hx).2 (by rw [(gd.ds i x hx).1]; exact hw)).2.2.1
  · exact Int.le_refl _
theorem lSa_nn {H : Hs} (gd : Gd H) (w i : Nat) : 0 ≤ lSa H w i := by
  unfold lSa
  split
  · next x hx =>
    split
    · have := (gd.pst i x hx).2.sup; omega
    · exact Int.le_refl _
  · exact Int.le_refl _
theorem wH_nn {B : Cal.Bo} (h : Cal.BInv B) (w : Nat) : 0 ≤ wsum (hT w) B.os := wsum_nn _ fun o ho => ⟨hT_nn h w ho, by have := Cal.may_am (h.may o ho); omega⟩
theorem wL_nn {B : Cal.Bo} (h : Cal.BInv B) (w : Nat) : 0 ≤ wsum (lT w) B.os := wsum_nn _ fun o ho => ⟨lT_nn w o, by have := Cal.may_am (h.may o ho); omega⟩
theorem hI_nn {H : Hs} (gd : Gd H) {w : Nat} (hw : w < H.l.length) (i : Nat) : 0 ≤ hI H w i := by
  have h1 := wH_nn (gd.bk i) w
  have h2 := hSa_nn gd hw i
  unfold hI; omega
theorem sum_one {f : Nat → Int} : ∀ {k : Nat}, (∀ i, i < k → 0 ≤ f i) → ∀ i, i < k → f i ≤ Clo.sumTo f k
  | k + 1, h, i, hi => by
    have h1 := Clo.sumTo_nonneg (k := k) (fun i hi => h i (by omega))
    have h2 := h k (by omega)
    rw [Clo.sumTo]
    by_cases e : i = k
    · rw [e]; omega
    · have := sum_one (k := k) (fun i hi => h i (by omega)) i (by omega)
      omega
/-- What is held and locked is within bounds. -/
theorem Bal.bd {H : Hs} (gd : Gd H) (bal : Bal H) {w : Nat} (hw : w < H.l.length) : (0 ≤ hcB H w ∧ hcB H w ≤ 1099511627776) ∧ ∀ i, i < H.g → 0 ≤ lkB H w i ∧ lkB H w i ≤ 1099511627776 := by
  have h1 := gd.inv.le Led.part0 hw
  have hg := gd.inv.g4
  rw [bal.b.h w hw] at h1
  refine ⟨by omega, fun i hi => ?_⟩
  have h2 := gd.inv.le (partGd (q := i) (by omega)) hw
  rw [bal.b.k w hw i hi] at h2
  omega
theorem free_eq {H : Hs} {w : Nat} (hw : w < H.l.length) : freeL H.l w (-1) = (Led.kAt H.l w).n 0 - (Led.kAt H.l w).n 1 := by
  unfold freeL
  rw [if_pos rfl, Int.toNat_natCast]
theorem free_lim {H : Hs} (gd : Gd H) {w : Nat} (hw : w < H.l.length) : freeL H.l w (-1) ≤ 1099511627776 := by
  rw [free_eq hw]
  have := gd.inv.le Led.part0 hw
  omega
theorem free_limG {H : Hs} (gd : Gd H) {w : Nat} (hw : w < H.l.length) {i : Nat} (hi : i < H.g) : freeL H.l w i ≤ 1099511627776 := by
  have hg := gd.inv.g4
  have := gd.inv.le (partGd (q := i) (by omega)) hw
  unfold freeL
  rw [if_neg (by omega), Int.toNat_natCast, Int.toNat_natCast]
  omega
/-- A house whose accounts are as they were but for what is free. -/
theorem Bal.acc {H : Hs} (bal : Bal H) {l' : Ks} (hl : l'.length = H.l.length) (h1 : ∀ w, w < l'.length → (Led.kAt l' w).n 1 = (Led.kAt H.l w).n 1) (h2 : ∀ w, w < l'.length → ∀ i, i < H.g → (Led.kAt l' w).n (6 + i) = (Led.kAt H.l w).n (6 + i)) {n : Int} : Bal { H with l := l', now := n } :=
  ⟨⟨fun w hw => (h1 w hw).trans (bal.b.h w (by rw [← hl]; exact hw)), fun w hw i hi => (h2 w hw i hi).trans (bal.b.k w (by rw [← hl]; exact hw) i hi)⟩,
   fun i o ho => by show OdN l'.length o; rw [hl]; exact bal.od i o ho⟩
theorem upd_free {l : Ks} {i a : Nat} {v : Int} (hi : i < l.length) (ha : a ≠ 1 ∧ a < 6 ∨ a = 10) :
    (∀ w, (Led.kAt (Led.upd l i a v) w).n 1 = (Led.kAt l w).n 1) ∧ ∀ w j, j < 4 → (Led.kAt (Led.upd l i a v) w).n (6 + j) = (Led.kAt l w).n (6 + j) :=
  ⟨fun w => by rw [Led.upd_at _ _ hi, if_neg (fun h => by omega)], fun w j hj => by rw [Led.upd_at _ _ hi, if_neg (fun h => by omega)]⟩
theorem mark_free {l : Ks} {who s : Int} {t : ByteArray} : (Led.markR l who s t).2.length = l.length ∧ (∀ w, w < l.length → (Led.kAt (Led.markR l who s t).2 w).n 1 = (Led.kAt l w).n 1) ∧ ∀ w, w < l.length → ∀ j, j < 4 → (Led.kAt (Led.markR l who s t).2 w).n (6 + j) = (Led.kAt l w).n (6 + j) := by
  refine ⟨markR_len, ?_⟩
  have key : ∀ (i : Nat) (k : Nat), k ≠ 10 → ∀ w, w < l.length → (Led.kAt (Led.markL l i s t) w).n k = (Led.kAt l w).n k := fun i k hk w hw => by
    by_cases e : w = i
    · subst e
      unfold Led.markL
      rw [Led.kAt_set _ hw, if_pos rfl]
      unfold Led.Kt.mark
      simp only
      rw [if_neg hk]
    · rw [Led.markL_other e]
  unfold Led.markR
  split
  · exact ⟨fun _ _ => rfl, fun _ _ _ _ => rfl⟩
  · split
    · exact ⟨fun _ _ => rfl, fun _ _ _ _ => rfl⟩
    · split
      · exact ⟨fun _ _ => rfl, fun _ _ _ _ => rfl⟩
      · exact ⟨fun w hw => key _ 1 (by omega) w hw, fun w hw j hj => key _ (6 + j) (by omega) w hw⟩
end Go.Proofs.YtpekfpfhonechaaGreat
