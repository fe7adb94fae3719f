/- The whole: behind a tick without auctions everybody's cash and pieces are worth, at one price a good, what they were. -/
import Derived.Test.YtpekfpfhonechaaGreatHw51
import Derived.Test.YtpekfpfhonechaaGreatHw53
namespace Go.Proofs.YtpekfpfhonechaaGreat
set_option linter.unusedSimpArgs false
set_option linter.unusedVariables false

/-- Accounts that are worth what they were at a good's price; of the other goods all is as it was. -/
structure Vl (p : Int) (i : Nat) (l l' : Ks) : Prop where
  len : l'.length = l.length
  v : ∀ w, (Led.kAt l' w).n 0 + p * (Led.kAt l' w).n (2 + i) = (Led.kAt l w).n 0 + p * (Led.kAt l w).n (2 + i)
  o : ∀ w j, j ≠ i → j < 4 → (Led.kAt l' w).n (2 + j) = (Led.kAt l w).n (2 + j)
theorem Vl.refl (p : Int) (i : Nat) (l : Ks) : Vl p i l l := ⟨rfl, fun _ => rfl, fun _ _ _ _ => rfl⟩
theorem Vl.trans {p : Int} {i : Nat} {a b c : Ks} (h : Vl p i a b) (k : Vl p i b c) : Vl p i a c :=
  ⟨k.len.trans h.len, fun w => (k.v w).trans (h.v w), fun w j h1 h2 => (k.o w j h1 h2).trans (h.o w j h1 h2)⟩
/-- Accounts whose cash and pieces are as they were. -/
theorem Vl.same {p : Int} {i : Nat} (hi : i < 4) {l l' : Ks} (hl : l'.length = l.length) (h : ∀ w x, x = 0 ∨ 2 ≤ x ∧ x < 6 → (Led.kAt l' w).n x = (Led.kAt l w).n x) : Vl p i l l' :=
  ⟨hl, fun w => by rw [h w 0 (Or.inl rfl), h w (2 + i) (Or.inr ⟨by omega, by omega⟩)], fun w j _ hj => h w (2 + j) (Or.inr ⟨by omega, by omega⟩)⟩
theorem upd_same {l : Ks} {i f : Nat} {v : Int} (hf : f = 1 ∨ 6 ≤ f) (w x : Nat) (hx : x = 0 ∨ 2 ≤ x ∧ x < 6) : (Led.kAt (Led.upd l i f v) w).n x = (Led.kAt l w).n x := by
  by_cases hi : i < l.length
  · rw [Led.upd_at _ _ hi, if_neg (fun h => by omega)]
  · unfold Led.upd
    rw [List.set_eq_of_length_le (by omega)]
theorem bindL_same (g : Nat) (l : Ks) (who thing n : Int) (w x : Nat) (hx : x = 0 ∨ 2 ≤ x ∧ x < 6) : (Led.kAt (bindL g l who thing n) w).n x = (Led.kAt l w).n x := by
  have hg : ∀ (e : Int) (r : Int × Ks), ((Led.kAt r.2 w).n x = (Led.kAt l w).n x) → (Led.kAt (Led.gate e l r).2 w).n x = (Led.kAt l w).n x := fun e r hr => by
    unfold Led.gate
    split
    · exact hr
    · rfl
  have hk : ∀ (i a b : Nat) (m : Int), (b = 1 ∨ 6 ≤ b) → (Led.kAt (Led.keepR l i a b m).2 w).n x = (Led.kAt l w).n x := fun i a b m hb => by
    unfold Led.keepR
    split
    · rfl
    · exact upd_same hb w x hx
  have hl : ∀ (i b : Nat) (m : Int), (b = 1 ∨ 6 ≤ b) → (Led.kAt (Led.looseR l i b m).2 w).n x = (Led.kAt l w).n x := fun i b m hb => by
    unfold Led.looseR
    split
    · rfl
    · exact upd_same hb w x hx
  unfold bindL
  split
  · split
    · exact hg _ _ (hk _ _ _ _ (by omega))
    · exact hg _ _ (hl _ _ _ (by omega))
  · split
    · exact hg _ _ (hk _ _ _ _ (by omega))
    · exact hg _ _ (hl _ _ _ (by omega))
theorem clrS_vl (g : Nat) (p : Int) (i : Nat) (l : Ks) (B : Cal.Bo) (k : Nat) (hk : k ≤ B.fl.length) (hi : i < 4 := by omega) : Vl p i l (clrS g l B k).1 := by
  induction k with
  | zero => exact Vl.refl _ _ _
  | succ k ih =>
    refine (ih (by omega)).trans ?_
    rw [clrS_succ g l B k (by omega)]
    unfold stepF
    split
    · dsimp only
      exact Vl.same hi (bindL_len _ _ _ _ _) (fun w x hx => bindL_same _ _ _ _ _ w x hx)
    · exact Vl.refl _ _ _
/-- What goes over. -/
theorem over_at {l : Ks} {a b f h : Nat} {m : Int} (ha : a < l.length) (hb : b < l.length) (hf : f ≠ h) (w x : Nat) (hx : x ≠ h) :
    (Led.kAt (Led.over3 l a b f h m) w).n x = (Led.kAt l w).n x + if x = f then (if w = b then m else 0) - (if w = a then m else 0) else 0 := by
  unfold Led.over3 Led.over2 Led.over1
  have q1 := fun w x => Led.upd_at (l := l) (i := a) h ((Led.kAt l a).n h - m) ha w x
  have n1 := Led.upd_len l a h ((Led.kAt l a).n h - m)
  generalize Led.upd l a h ((Led.kAt l a).n h - m) = l1 at *
  have q2 := fun w x => Led.upd_at (l := l1) (i := a) f ((Led.kAt l1 a).n f - m) (by omega) w x
  have n2 := Led.upd_len l1 a f ((Led.kAt l1 a).n f - m)
  generalize Led.upd l1 a f ((Led.kAt l1 a).n f - m) = l2 at *
  rw [Led.upd_at _ _ (by omega)]
  have p1 : ∀ w, (Led.kAt l1 w).n f = (Led.kAt l w).n f := fun w => by rw [q1, if_neg (fun e => hf e.2)]
  have p2 : (Led.kAt l1 w).n x = (Led.kAt l w).n x := by rw [q1, if_neg (fun e => hx e.2)]
  rw [q2 b f, q2 w x, p1 a, p1 b, p2]
  by_cases e : x = f
  · subst e
    by_cases e1 : w = b
    · subst e1
      by_cases e2 : w = a
      · subst e2
        simp only [and_self, if_true]
        omega
      · simp only [e2, false_and, and_self, if_true, if_false]
        omega
    · by_cases e2 : w = a
      · subst e2
        simp only [e1, false_and, and_self, if_true, if_false]
        omega
      · simp only [e1, e2, false_and, and_self, if_true, if_false]
        omega
  · simp only [e, and_false, if_false]
    omega
theorem trade_vl {g : Nat} {l : Ks} {hc : Nat → Int} {lk : Nat → Nat → Int} (b : Bl g l hc lk) (hg : g ≤ 4) {s q : Nat} (hs : s < l.length) (hq : q < l.length) {i : Nat} (hi : i < g) {n p : Int} (hn : 1 ≤ n) (hp : 0 ≤ p) (h1 : n * p ≤ hc q) (h2 : n ≤ lk s i)
    (hb1 : hc q ≤ 1099511627776) (hb2 : lk s i ≤ 1099511627776) : Vl p i l (tradeL g l i s q n p) := by
  have hnp : 0 ≤ n * p := Int.mul_nonneg (by omega) hp
  have hl1 : (tradeL1 l s q n p).length = l.length := tradeL1_len _ _ _ _ _
  have hl2 : (tradeL g l i s q n p).length = l.length := tradeL_len _ _ _ _ _ _ _
  have hA : ∀ w x, x ≠ 1 → (Led.kAt (tradeL1 l s q n p) w).n x = (Led.kAt l w).n x + if x = 0 then (if w = s then n * p else 0) - (if w = q then n * p else 0) else 0 := fun w x hx => by
    unfold tradeL1
    generalize n * p = m at *
    by_cases h0 : m < 1
    · rw [gate_no (refE_low h0)]
      have : m = 0 := by omega
      subst this
      simp
    · rw [gate_go (refE_2 hq hs (by omega) (by omega)), Int.toNat_natCast, Int.toNat_natCast]
      have hn1 := b.h q hq
      unfold Led.overR
      rw [if_neg (by omega)]
      exact over_at hq hs (by omega) w x hx
  have hlk : (Led.kAt (tradeL1 l s q n p) s).n (6 + i) = lk s i := by
    rw [hA s (6 + i) (by omega), if_neg (by omega), b.k s hs i hi]
    omega
  have hB : ∀ w x, x ≠ 6 + i → (Led.kAt (tradeL g l i s q n p) w).n x = (Led.kAt (tradeL1 l s q n p) w).n x + if x = 2 + i then (if w = q then n else 0) - (if w = s then n else 0) else 0 := fun w x hx => by
    unfold tradeL
    generalize tradeL1 l s q n p = l1 at *
    have hs1 : s < l1.length := by omega
    have hq1 : q < l1.length := by omega
    rw [gate_go (refG_of (refE_2 hs1 hq1 hn (by omega)) hi), Int.toNat_natCast, Int.toNat_natCast, Int.toNat_natCast]
    unfold Led.overR
    rw [if_neg (by omega)]
    exact over_at hs1 hq1 (by omega) w x hx
  refine ⟨hl2, fun w => ?_, fun w j hj hj4 => ?_⟩
  · rw [hB w 0 (by omega), hB w (2 + i) (by omega), hA w 0 (by omega), hA w (2 + i) (by omega)]
    rw [if_neg (show ¬ (0 : Nat) = 2 + i by omega), if_pos rfl, if_neg (show ¬ 2 + i = 0 by omega), if_pos rfl]
    rw [Int.mul_add, Int.mul_add, Int.mul_sub]
    have e1 : p * (if w = q then n else 0) = if w = q then n * p else 0 := by split <;> simp [Int.mul_comm]
    have e2 : p * (if w = s then n else 0) = if w = s then n * p else 0 := by split <;> simp [Int.mul_comm]
    rw [e1, e2]
    omega
  · rw [hB w (2 + j) (by omega), hA w (2 + j) (by omega), if_neg (by omega), if_neg (by omega)]
    omega
theorem setl_vl {g : Nat} (hg : g ≤ 4) {i : Nat} (hi : i < g) {p : Int} (hp : 0 ≤ p) : ∀ (k : Nat) (l : Ks) (b s : List Cal.Fi) (hc : Nat → Int) (lk : Nat → Nat → Int), Bl g l hc lk → posF b → posF s → amF b = amF s → b.length + s.length ≤ k →
    (∀ f ∈ b, ∃ w : Nat, f.2.1 = w ∧ w < l.length) → (∀ f ∈ s, ∃ w : Nat, f.2.1 = w ∧ w < l.length) → (∀ w, w < l.length → p * amO w b ≤ hc w ∧ hc w ≤ 1099511627776) → (∀ w, w < l.length → amO w s ≤ lk w i ∧ lk w i ≤ 1099511627776) →
    Vl p i l (setl g i p k l b s)
  | 0, l, b, s, hc, lk, hb, pb, ps, hab, hk, ob, os, h1, h2 => by
    have e1 : b = [] := List.eq_nil_of_length_eq_zero (by omega)
    have e2 : s = [] := List.eq_nil_of_length_eq_zero (by omega)
    subst e1 e2
    exact Vl.refl _ _ _
  | k + 1, l, [], s, hc, lk, hb, pb, ps, hab, hk, ob, os, h1, h2 => by
    have e2 : s = [] := posF_nil ps (by rw [← hab]; rfl)
    subst e2
    exact Vl.refl _ _ _
  | k + 1, l, f :: b, [], hc, lk, hb, pb, ps, hab, hk, ob, os, h1, h2 => by
    have e2 : f :: b = [] := posF_nil pb (by rw [hab]; rfl)
    cases e2
  | k + 1, l, f :: b, q :: s, hc, lk, hb, pb, ps, hab, hk, ob, os, h1, h2 => by
    obtain ⟨w1, hw1, hl1⟩ := ob f (List.mem_cons_self ..)
    obtain ⟨w2, hw2, hl2⟩ := os q (List.mem_cons_self ..)
    have hf := pb f (List.mem_cons_self ..)
    have hq := ps q (List.mem_cons_self ..)
    obtain ⟨n, hn⟩ : ∃ n, min f.2.2 q.2.2 = n := ⟨_, rfl⟩
    have hn1 : 1 ≤ n := by omega
    have hnf : n ≤ f.2.2 := by omega
    have hnq : n ≤ q.2.2 := by omega
    have a1 := amO_nn (w := w1) (fun x hx => pb x (List.mem_cons_of_mem _ hx))
    have a2 := amO_nn (w := w2) (fun x hx => ps x (List.mem_cons_of_mem _ hx))
    have c1 := amO_cons w1 f b
    have c2 := amO_cons w2 q s
    rw [if_pos hw1] at c1
    rw [if_pos hw2] at c2
    have hnp : n * p ≤ hc w1 := by
      have h3 := (h1 w1 hl1).1
      have h4 : n ≤ amO w1 (f :: b) := by omega
      have h5 := Int.mul_le_mul_of_nonneg_left h4 hp
      rw [Int.mul_comm n p]
      omega
    have ht := hb.trade hg hl2 hl1 hi hn1 hp hnp (by have := (h2 w2 hl2).1; omega) (h1 w1 hl1).2 (h2 w2 hl2).2
    have hv := trade_vl hb hg hl2 hl1 hi hn1 hp hnp (by have := (h2 w2 hl2).1; omega) (h1 w1 hl1).2 (h2 w2 hl2).2
    show Vl p i l (setl g i p k (tradeL g l i q.2.1 f.2.1 (min f.2.2 q.2.2) p) (lessF (f :: b) (min f.2.2 q.2.2)) (lessF (q :: s) (min f.2.2 q.2.2)))
    rw [hn, hw1, hw2]
    have hlen : (tradeL g l i w2 w1 n p).length = l.length := tradeL_len _ _ _ _ _ _ _
    have hb1 := fun w => amO_less w f b n
    have hb2 := fun w => amO_less w q s n
    have hrec := setl_vl hg hi hp k _ (lessF (f :: b) n) (lessF (q :: s) n) _ _ ht (less_pos pb (by omega) hnf) (less_pos ps (by omega) hnq)
      (by rw [lessF_am, lessF_am, hab])
      (by
        have l1 := lessF_len f b n
        have l2 := lessF_len q s n
        simp only [List.length_cons] at hk
        rcases Int.le_total f.2.2 q.2.2 with h | h
        · have := l1.2 (by omega); omega
        · have := l2.2 (by omega); omega)
      (by rw [hlen]; exact less_own (c := fun z => ∃ w : Nat, z = w ∧ w < l.length) ob) (by rw [hlen]; exact less_own (c := fun z => ∃ w : Nat, z = w ∧ w < l.length) os)
      (fun w hw => by
        have h3 := h1 w (by omega)
        rw [hb1 w, hw1]
        unfold up1
        by_cases e : w = w1
        · rw [if_pos (show w = w1 from e), if_pos (show ((w1 : Nat) : Int) = (w : Int) by rw [e]), e, Int.mul_sub, Int.mul_comm n p]
          rw [e] at h3
          have := Int.mul_nonneg hp (show (0 : Int) ≤ n by omega)
          omega
        · rw [if_neg (show ¬ w = w1 from e), if_neg (show ¬ ((w1 : Nat) : Int) = (w : Int) by omega), Int.sub_zero]
          exact h3)
      (fun w hw => by
        have h3 := h2 w (by omega)
        rw [hb2 w, hw2]
        unfold up2
        by_cases e : w = w2
        · rw [if_pos (show w = w2 ∧ i = i from ⟨e, rfl⟩), if_pos (show ((w2 : Nat) : Int) = (w : Int) by rw [e]), e]
          rw [e] at h3
          omega
        · rw [if_neg (show ¬ (w = w2 ∧ i = i) from fun h => e h.1), if_neg (show ¬ ((w2 : Nat) : Int) = (w : Int) by omega), Int.sub_zero]
          exact h3)
    exact hv.trans hrec
theorem clrL_vl {g : Nat} (hg : g ≤ 4) {i : Nat} (hi : i < g) {l : Ks} {B : Cal.Bo} (h : Cal.BInv B) {hc : Nat → Int} {lk : Nat → Nat → Int} (hb : Bl g l hc lk) (hown : ∀ o ∈ B.os, ∃ w : Nat, o.own = w ∧ w < l.length)
    (h1 : ∀ w, w < l.length → wsum (hT w) B.os ≤ hc w ∧ hc w ≤ 1099511627776) (h2 : ∀ w, w < l.length → wsum (lT w) B.os ≤ lk w i ∧ lk w i ≤ 1099511627776) :
    Vl (Cal.crs B.os).1 i l (clrL g i l B) := by
  have hof : ∀ f ∈ B.fl, ∃ w : Nat, f.2.1 = w ∧ w < l.length := fun f hf => by
    obtain ⟨o, ho, _, e2, _⟩ := fl_side h hf
    rw [e2]
    exact hown o ho
  have hgh : ∀ w, gsum (hT w) B.fl B.os ≤ wsum (hT w) B.os := fun w => (gsum_le B.os fun o ho => ⟨hT_nn h w ho, Cal.got_bd h _ _ ho⟩).2
  have hgl : ∀ w, gsum (lT w) B.fl B.os ≤ wsum (lT w) B.os := fun w => (gsum_le B.os fun o ho => ⟨lT_nn w o, Cal.got_bd h _ _ ho⟩).2
  have hp := crs_pr B.os
  obtain ⟨c1, c2, c3⟩ := clrS_parts g l B _ (Nat.le_refl _)
  obtain ⟨p1, p2, _, _⟩ := clr_pos (g := g) (l := l) h
  have hev := clr_even (g := g) (l := l) h
  have hS := clrS_bl h hb hof (fun w hw => by
    have e := buys_sum B w B.fl
    have e2 := (fl_sum h w).1
    have e3 := hgh w
    have e4 := h1 w hw
    have e5 := Int.mul_nonneg hp.1 (amO_nn (w := w) (fs := B.fl.filter fun f => isB B f) (fun f hf => fl_bd h (List.mem_filter.1 hf).1))
    omega) _ (Nat.le_refl _)
  rw [List.take_length] at hS c2 c3
  have hvS := clrS_vl g (Cal.crs B.os).1 i l B _ (Nat.le_refl _)
  unfold clrL
  generalize hL : (clrS g l B B.fl.length).1 = l1 at *
  generalize hb2 : (clrS g l B B.fl.length).2.1 = bs at *
  generalize hs2 : (clrS g l B B.fl.length).2.2 = ss at *
  have hbm : bs = B.fl.filter fun f => isB B f := c2
  have hsm : ss = B.fl.filter fun f => !isB B f := c3
  have hset := setl_vl hg hi hp.1 (bs.length + ss.length) l1 bs ss _ _ hS p1 p2 hev (Nat.le_refl _)
    (fun f hf => by rw [c1]; exact hof f (List.mem_filter.1 (hbm ▸ hf)).1) (fun f hf => by rw [c1]; exact hof f (List.mem_filter.1 (hsm ▸ hf)).1)
    (fun w hw => by
      rw [c1] at hw
      have e := buys_sum B w B.fl
      have e2 := (fl_sum h w).1
      have e3 := hgh w
      have e4 := h1 w hw
      have e5 := fsum_nn (c := cR B w) B.fl (fun f hf => fl_nn h w f hf)
      rw [hbm]
      (try dsimp only)
      omega)
    (fun w hw => by
      rw [c1] at hw
      have e := sells_sum B w B.fl
      have e2 := (fl_sum h w).2
      have e3 := hgl w
      have e4 := h2 w hw
      rw [hsm]
      omega)
  exact hvS.trans hset
/-- A market's clearing within a house. -/
theorem clr1_vl {H : Hs} (gd : Gd H) (bal : Bal H) {i : Nat} (hi : i < H.g) : Vl (Cal.crs (H.book i).os).1 i H.l (clr1 H i).l := by
  have hown : ∀ o ∈ (H.book i).os, ∃ w : Nat, o.own = w ∧ w < H.l.length := fun o ho => by
    obtain ⟨w, x, h1, h2, _⟩ := bal.od i o ho
    exact ⟨w, h1, h2⟩
  have hB := clrL_vl gd.inv.g4 hi (gd.bk i) bal.b hown
    (fun w hw => by
      have h1 := (bal.bd gd hw).1
      have h2 := sum_one (f := hI H w) (k := H.g) (fun j _ => hI_nn gd hw j) i hi
      have h3 := hSa_nn gd hw i
      have q1 : hcB H w = Clo.sumTo (hI H w) H.g := rfl
      have q2 : hI H w i = wsum (hT w) (H.book i).os + hSa H w i := rfl
      omega)
    (fun w hw => by
      have h1 := (bal.bd gd hw).2 i hi
      have h3 := lSa_nn gd w i
      have q3 : lkB H w i = wsum (lT w) (H.book i).os + lSa H w i := rfl
      omega)
  obtain ⟨e1, e2, e3, e4⟩ := clr1_is H i
  rw [e4]
  exact hB
end Go.Proofs.YtpekfpfhonechaaGreat

namespace Go.Proofs.YtpekfpfhonechaaGreat
set_option linter.unusedSimpArgs false
set_option linter.unusedVariables false

theorem mark_same {l : Ks} {who s : Int} {t : ByteArray} (w : Nat) (hw : w < l.length) (x : Nat) (hx : x ≠ 10) : (Led.kAt (Led.markR l who s t).2 w).n x = (Led.kAt l w).n x := by
  have key : ∀ (i : Nat), (Led.kAt (Led.markL l i s t) w).n x = (Led.kAt l w).n x := fun i => by
    by_cases e : w = i
    · subst e
      unfold Led.markL
      rw [Led.kAt_set _ hw, if_pos rfl]
      unfold Led.Kt.mark
      simp only
      rw [if_neg hx]
    · rw [Led.markL_other e]
  unfold Led.markR
  split
  · rfl
  · split
    · rfl
    · split
      · rfl
      · exact key _
theorem tick1_no {E : Hs → Nat → Hs} {H : Hs} {i : Nat} (h : ∀ x : Clo.Au × Int, H.ss[i]? ≠ some (some x)) : tick1 E H i = clr1 H i := by
  unfold tick1
  split
  · next x hx => exact absurd hx (h x)
  · rfl
/-- A tick's ask. -/
def tkO : Oo := ⟨1, 0, 0, 0, 0, 0⟩
theorem deedR_1 (H : Hs) (who : Int) : deedR H who tkO = tickR endR H := by
  unfold deedR
  rw [if_pos (show tkO.k = 1 from rfl)]
theorem tickR_val {H : Hs} (gd : Gd H) (bal : Bal H) (hg : H.g = 2) (hno : ∀ (i : Nat) (x : Clo.Au × Int), H.ss[i]? ≠ some (some x)) :
    (tickR endR H).2.l.length = H.l.length ∧ ∃ p0 p1 : Int, 0 ≤ p0 ∧ 0 ≤ p1 ∧ ∀ w, (Led.kAt (tickR endR H).2.l w).n 0 + p0 * (Led.kAt (tickR endR H).2.l w).n 2 + p1 * (Led.kAt (tickR endR H).2.l w).n 3 = (Led.kAt H.l w).n 0 + p0 * (Led.kAt H.l w).n 2 + p1 * (Led.kAt H.l w).n 3 := by
  unfold tickR
  split
  · exact ⟨rfl, 0, 0, Int.le_refl _, Int.le_refl _, fun w => rfl⟩
  · dsimp only
    have gd0 : Gd { H with now := H.now + 1 } := ⟨gd.inv, gd.nm, gd.ns, gd.bk, gd.pst, gd.ds⟩
    have bal0 : Bal { H with now := H.now + 1 } := ⟨bal.b, bal.od⟩
    obtain ⟨H0, hH0⟩ : ∃ H0 : Hs, { H with now := H.now + 1 } = H0 := ⟨_, rfl⟩
    have hl0 : H0.l = H.l := by rw [← hH0]
    have hs0 : H0.ss = H.ss := by rw [← hH0]
    have hg0 : H0.g = 2 := by rw [← hH0]; exact hg
    rw [hH0] at gd0 bal0 ⊢
    rw [hg, show tickN endR H0 2 = tick1 endR (tick1 endR H0 0) 1 from rfl]
    rw [tick1_no (H := H0) (fun x => by rw [hs0]; exact hno 0 x)]
    have v0 := clr1_vl gd0 bal0 (i := 0) (by omega)
    have g1 := clr1_gd gd0 0
    have b1 := clr1_bal gd0 bal0 (i := 0) (by omega)
    obtain ⟨e1, e2, e3, e4⟩ := clr1_is H0 0
    have hp0 := (crs_pr (H0.book 0).os).1
    generalize (Cal.crs (H0.book 0).os).1 = p0 at *
    generalize clr1 H0 0 = H1 at *
    rw [tick1_no (H := H1) (fun x => by rw [e2, hs0]; exact hno 1 x)]
    have v1 := clr1_vl g1 b1 (i := 1) (by omega)
    have hp1 := (crs_pr (H1.book 1).os).1
    generalize (Cal.crs (H1.book 1).os).1 = p1 at *
    generalize clr1 H1 1 = H2 at *
    refine ⟨v1.len.trans (v0.len.trans (by rw [hl0])), p0, p1, hp0, hp1, fun w => ?_⟩
    have a1 := v0.v w
    have a2 := v0.o w 1 (by omega) (by omega)
    have a3 := v1.v w
    have a4 := v1.o w 0 (by omega) (by omega)
    rw [hl0] at a1 a2
    simp only [Nat.add_zero, show 2 + 1 = 3 from rfl] at a1 a2 a3 a4
    rw [a2] at a3
    rw [a4]
    omega
theorem tick_val {H : Hs} {s : Nat → Int} (gd : Gd H) (bal : Bal H) (hl : H.l.length = 4) (hg : H.g = 2) (st : ∀ i, i < 4 → (Led.kAt H.l i).n 10 = s i) (s0 : ∀ i, i < 4 → 0 ≤ s i) (hno : ∀ (i : Nat) (x : Clo.Au × Int), H.ss[i]? ≠ some (some x)) (who : Int)
    (hs : s (Led.rest who 4) < 1099511627776) :
    ∃ p0 p1 : Int, 0 ≤ p0 ∧ 0 ≤ p1 ∧ ∀ w, w < 4 → (Led.kAt (roomR H s who tkO).2.1.l w).n 0 + p0 * (Led.kAt (roomR H s who tkO).2.1.l w).n 2 + p1 * (Led.kAt (roomR H s who tkO).2.1.l w).n 3 = (Led.kAt H.l w).n 0 + p0 * (Led.kAt H.l w).n 2 + p1 * (Led.kAt H.l w).n 3 := by
  have hk : opOk tkO = true := by kernel_rfl
  have ho : ofOpR ⟨(opB tkO).toArray⟩ = .ok tkO := of_op _ hk (by decide)
  have hw := Led.rest_lt who 4 (by omega)
  unfold roomR
  rw [if_pos hk]
  generalize Led.rest who 4 = i at *
  have hr : refR H.l i (s i + 1) = 0 := by
    unfold refR
    have a := s0 i hw
    rw [if_neg (by omega), if_neg (by omega), Int.toNat_natCast, st i hw, if_neg (by omega)]
  have hq : reqR H i ⟨(opB tkO).toArray⟩ = tickR endR H := by
    unfold reqR
    rw [ho]
    exact deedR_1 H i
  have hd : (doR H (i : Int) (s i + 1) ⟨(opB tkO).toArray⟩).2.2 = doneS (i : Int) (s i + 1) (tickR endR H) (valR H i ⟨(opB tkO).toArray⟩) := by
    unfold doR
    rw [if_pos hr, hq]
  dsimp only
  rw [hd]
  obtain ⟨hlen, p0, p1, h0, h1, hv⟩ := tickR_val gd bal hg hno
  refine ⟨p0, p1, h0, h1, fun w hw4 => ?_⟩
  have e : ∀ x, x ≠ 10 → (Led.kAt (doneS (i : Int) (s i + 1) (tickR endR H) (valR H i ⟨(opB tkO).toArray⟩)).l w).n x = (Led.kAt (tickR endR H).2.l w).n x := fun x hx =>
    mark_same w (by rw [hlen, hl]; exact hw4) x hx
  rw [e 0 (by omega), e 2 (by omega), e 3 (by omega)]
  exact hv w
/-- One price: who gets n pieces pays it n times. -/
theorem one_price {c n p : Int} (hn : n ≠ 0) (hp : 0 ≤ p) (h : c = p * n) : c.tmod n = 0 ∧ c.tdiv n = p := by
  subst h
  exact ⟨Int.mul_tmod_left _ _, Int.mul_tdiv_cancel _ hn⟩
end Go.Proofs.YtpekfpfhonechaaGreat
