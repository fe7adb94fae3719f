/- The house: what is refused changes nothing; nobody else's account changes but by a tick. -/
import Derived.Test.YtpekfpfhonechaaGreatHw47
import Derived.Test.YtpekfpfhonechaaGreatHw09
import Derived.Test.YtpekfpfhonechaaGreatHw26
namespace Go.Proofs.YtpekfpfhonechaaGreat
open Go.RowKit
set_option linter.unusedSimpArgs false
set_option linter.unusedVariables false

theorem dm_set {l : List Clo.Dm} {i : Nat} (h : i < l.length) (a b : Int) : (l.set i ⟨Clo.wasOf l i, a⟩).set i ⟨Clo.wasOf (l.set i ⟨Clo.wasOf l i, a⟩) i, Clo.nowOf l i⟩ = l := by
  have e : Clo.wasOf (l.set i ⟨Clo.wasOf l i, a⟩) i = Clo.wasOf l i := by
    unfold Clo.wasOf Clo.dAt
    simp [h]
  rw [e, List.set_set]
  have e2 : (⟨Clo.wasOf l i, Clo.nowOf l i⟩ : Clo.Dm) = l[i] := by
    unfold Clo.wasOf Clo.nowOf
    rw [Clo.dAt_eq h]
  rw [e2, List.set_getElem_self]
/-- A bid that is taken back leaves the auction as it was. -/
theorem bid_back {A : Clo.Au} (hi : Clo.Inv A) {who n : Int} (h : (A.bid who n).1 = 0) : ((A.bid who n).2.bid who (Clo.nowOf A.ds who.toNat)).2 = A := by
  unfold Clo.Au.bid at h
  split at h
  · cases h
  · next h1 =>
    split at h
    · cases h
    · next h2 =>
      split at h
      · cases h
      · next h3 =>
        have hw : 0 ≤ who ∧ who < A.ds.length := by
          by_cases hw : 0 ≤ who ∧ who < A.ds.length
          · exact hw
          · exact absurd (Or.inl hw) h2
        have e : (A.bid who n).2 = { A with ds := A.ds.set who.toNat ⟨Clo.wasOf A.ds who.toNat, n⟩ } := by
          unfold Clo.Au.bid
          rw [if_neg h1, if_neg h2, if_neg h3]
        have hd := hi.dm who.toNat (by omega)
        have hwas : Clo.wasOf (A.ds.set who.toNat ⟨Clo.wasOf A.ds who.toNat, n⟩) who.toNat = Clo.wasOf A.ds who.toNat := by
          unfold Clo.wasOf Clo.dAt
          simp [show who.toNat < A.ds.length by omega]
        rw [e]
        unfold Clo.Au.bid
        rw [if_neg h1, if_neg (by
          show ¬ (¬ (0 ≤ who ∧ who < ((A.ds.set _ _).length : Int)) ∨ _)
          rw [List.length_set]
          omega), if_neg (by
          show ¬ (1 < A.round ∧ Clo.wasOf (A.ds.set _ _) _ < _)
          rw [hwas]
          intro hh
          have := hi.fall hh.1 who.toNat (by omega)
          omega)]
        show ({ A with ds := (A.ds.set who.toNat ⟨Clo.wasOf A.ds who.toNat, n⟩).set who.toNat ⟨Clo.wasOf (A.ds.set who.toNat ⟨Clo.wasOf A.ds who.toNat, n⟩) who.toNat, Clo.nowOf A.ds who.toNat⟩ } : Clo.Au) = A
        rw [dm_set (by omega) n 0]
theorem set_sameP {α : Type} {l : List α} {i : Nat} {a : α} (h : l[i]? = some a) : l.set i a = l := by
  obtain ⟨h1, h2⟩ := List.getElem?_eq_some_iff.1 h
  rw [← h2]
  exact List.set_getElem_self h1
theorem wantR_not {H : Hs} (hp : Pst H) {who : Int} {o : Oo} (h : (wantR H who o).1 ≠ 0) : (wantR H who o).2 = H := by
  unfold wantR at h ⊢
  split
  · rfl
  · next h1 =>
    rw [if_neg h1] at h
    split
    · rfl
    · next h2 =>
      rw [if_neg h2] at h
      split
      · next x hx =>
        simp only [hx] at h
        split
        · rfl
        · next h3 =>
          rw [if_neg h3] at h
          split
          · rfl
          · next h4 =>
            rw [if_neg h4] at h
            split
            · have hb := bid_back (hp _ x hx).2 (Classical.not_not.1 h4)
              rw [hb]
              show ({ H with ss := H.ss.set o.g.toNat (some (x.1, x.2)) } : Hs) = H
              rw [set_sameP (show H.ss[o.g.toNat]? = some (some (x.1, x.2)) from hx)]
            · next h5 => rw [if_neg h5] at h; exact absurd rfl h
      · rfl
/-- A request that is refused changes nothing. -/
theorem deedR_not {H : Hs} (hp : Pst H) {who : Int} {o : Oo} (h : (deedR H who o).1 ≠ 0) : (deedR H who o).2 = H := by
  unfold deedR at h ⊢
  split
  · next k => rw [if_pos k] at h; unfold tickR at h ⊢; split <;> simp_all
  next k1 =>
  rw [if_neg k1] at h
  split
  · next k => rw [if_pos k] at h; exact congrArg (fun l => ({ H with l := l } : Hs)) (Led.gate_not (fun h => Led.if_not h) h)
  next k2 =>
  rw [if_neg k2] at h
  split
  · next k => rw [if_pos k] at h; exact congrArg (fun l => ({ H with l := l } : Hs)) (Led.gate_not (fun h => Led.if_not h) h)
  next k3 =>
  rw [if_neg k3] at h
  split
  · next k => rw [if_pos k] at h; exact congrArg (fun l => ({ H with l := l } : Hs)) (Led.gate_not (fun h => Led.if_not h) h)
  next k4 =>
  rw [if_neg k4] at h
  split
  · next k => rw [if_pos k] at h; exact congrArg (fun l => ({ H with l := l } : Hs)) (Led.gate_not (fun h => Led.if_not h) h)
  next k5 =>
  rw [if_neg k5] at h
  split
  · next k =>
    rw [if_pos k] at h
    unfold offerR at h ⊢
    repeat' split
    all_goals simp_all
  next k6 =>
  rw [if_neg k6] at h
  split
  · next k => rw [if_pos k] at h; exact wantR_not hp h
  next k7 =>
  rw [if_neg k7] at h
  split
  · next k =>
    rw [if_pos k] at h
    unfold putR at h ⊢
    repeat' split
    all_goals simp_all
  next k8 =>
  rw [if_neg k8] at h
  split
  · next k =>
    rw [if_pos k] at h
    unfold amendR amdR at h ⊢
    repeat' split
    all_goals simp_all
  next k9 =>
  rw [if_neg k9] at h
  split
  · next k =>
    rw [if_pos k] at h
    unfold cancelR at h ⊢
    repeat' split
    all_goals simp_all
  · rfl
end Go.Proofs.YtpekfpfhonechaaGreat

namespace Go.Proofs.YtpekfpfhonechaaGreat
set_option linter.unusedSimpArgs false
set_option linter.unusedVariables false

/-- Of each account just so much is held, and locked. -/
structure Bl (g : Nat) (l : Ks) (hc : Nat → Int) (lk : Nat → Nat → Int) : Prop where
  h : ∀ w, w < l.length → (Led.kAt l w).n 1 = hc w
  k : ∀ w, w < l.length → ∀ i, i < g → (Led.kAt l w).n (6 + i) = lk w i
def up1 (f : Nat → Int) (w : Nat) (v : Int) : Nat → Int := fun x => if x = w then v else f x
def up2 (f : Nat → Nat → Int) (w i : Nat) (v : Int) : Nat → Nat → Int := fun x j => if x = w ∧ j = i then v else f x j
variable {g : Nat} {l : Ks} {hc : Nat → Int} {lk : Nat → Nat → Int} {w : Nat}
theorem Bl.congr {hc' : Nat → Int} {lk' : Nat → Nat → Int} (b : Bl g l hc lk) (h1 : ∀ w, w < l.length → hc w = hc' w) (h2 : ∀ w, w < l.length → ∀ i, i < g → lk w i = lk' w i) : Bl g l hc' lk' :=
  ⟨fun w hw => (b.h w hw).trans (h1 w hw), fun w hw i hi => (b.k w hw i hi).trans (h2 w hw i hi)⟩
theorem Bl.upd1 (b : Bl g l hc lk) (hw : w < l.length) (v : Int) : Bl g (Led.upd l w 1 v) (up1 hc w v) lk := by
  refine ⟨fun x hx => ?_, fun x hx i hi => ?_⟩
  · rw [Led.upd_len] at hx
    rw [Led.upd_at _ _ hw]
    unfold up1
    by_cases e : x = w
    · rw [if_pos ⟨e, rfl⟩, if_pos e]
    · rw [if_neg (fun h => e h.1), if_neg e]; exact b.h x hx
  · rw [Led.upd_len] at hx
    rw [Led.upd_at _ _ hw, if_neg (fun h => by omega)]
    exact b.k x hx i hi
theorem Bl.upd2 (b : Bl g l hc lk) (hw : w < l.length) (i : Nat) (v : Int) : Bl g (Led.upd l w (6 + i) v) hc (up2 lk w i v) := by
  refine ⟨fun x hx => ?_, fun x hx j hj => ?_⟩
  · rw [Led.upd_len] at hx
    rw [Led.upd_at _ _ hw, if_neg (fun h => by omega)]
    exact b.h x hx
  · rw [Led.upd_len] at hx
    rw [Led.upd_at _ _ hw]
    unfold up2
    by_cases e : x = w ∧ j = i
    · rw [if_pos ⟨e.1, by omega⟩, if_pos e]
    · rw [if_neg (fun h => e ⟨h.1, by omega⟩), if_neg e]; exact b.k x hx j hj
theorem Bl.upd0 (b : Bl g l hc lk) (hw : w < l.length) (f : Nat) (hf : f ≠ 1) (hf2 : f < 6) (v : Int) : Bl g (Led.upd l w f v) hc lk := by
  refine ⟨fun x hx => ?_, fun x hx j hj => ?_⟩
  · rw [Led.upd_len] at hx
    rw [Led.upd_at _ _ hw, if_neg (fun h => hf h.2.symm)]
    exact b.h x hx
  · rw [Led.upd_len] at hx
    rw [Led.upd_at _ _ hw, if_neg (fun h => by omega)]
    exact b.k x hx j hj
theorem refE_1 {c : Nat} {n : Int} (hw : w < c) (h1 : 1 ≤ n) (h2 : n ≤ 1099511627776) : Led.refE c n [(w : Int)] = 0 := by
  unfold Led.refE
  rw [if_neg (by simp; omega), if_neg (by omega)]
theorem refE_2 {c s : Nat} {n : Int} (hw : w < c) (hs : s < c) (h1 : 1 ≤ n) (h2 : n ≤ 1099511627776) : Led.refE c n [(w : Int), (s : Int)] = 0 := by
  unfold Led.refE
  rw [if_neg (by simp; omega), if_neg (by omega)]
theorem refE_low {c : Nat} {n : Int} {m : List Int} (h : n < 1) : Led.refE c n m ≠ 0 := by
  unfold Led.refE
  split
  · decide
  · rw [if_pos (Or.inl h)]; decide
theorem refG_of {c : Nat} {n : Int} {m : List Int} {i : Nat} (h : Led.refE c n m = 0) (hi : i < g) : Led.refG g c (i : Int) n m = 0 := by
  unfold Led.refG
  rw [if_pos h, if_neg (by omega)]
theorem refG_low {c : Nat} {n : Int} {m : List Int} {i : Int} (h : n < 1) : Led.refG g c i n m ≠ 0 := by
  unfold Led.refG
  rw [if_neg (refE_low h)]
  exact refE_low h
theorem gate_no {e : Int} {l : Ks} {r : Int × Ks} (h : e ≠ 0) : (Led.gate e l r).2 = l := by
  unfold Led.gate; rw [if_neg h]
theorem gate_go {e : Int} {l : Ks} {r : Int × Ks} (h : e = 0) : (Led.gate e l r).2 = r.2 := by
  unfold Led.gate; rw [if_pos h]
/-- So much more cash is held, or less. -/
theorem Bl.bind1 (b : Bl g l hc lk) (hw : w < l.length) (n : Int) (h0 : 0 ≤ hc w + n) (hb : hc w ≤ 1099511627776) (hf : 0 < n → n ≤ freeL l w (-1) ∧ n ≤ 1099511627776) :
    Bl g (bindL g l w (-1) n) (up1 hc w (hc w + n)) lk := by
  have hn1 := b.h w hw
  unfold bindL
  rw [if_pos rfl]
  by_cases hn : 0 < n
  · obtain ⟨hf1, hf2⟩ := hf hn
    unfold freeL at hf1
    rw [if_pos rfl, Int.toNat_natCast] at hf1
    rw [if_pos hn, gate_go (refE_1 hw (by omega) hf2), Int.toNat_natCast]
    unfold Led.keepR
    rw [if_neg (by omega)]
    have := b.upd1 hw ((Led.kAt l w).n 1 + n)
    rw [hn1] at this
    rw [hn1]
    exact this
  · rw [if_neg hn]
    by_cases h00 : n = 0
    · subst h00
      rw [gate_no (refE_low (by omega))]
      refine b.congr (fun x hx => ?_) (fun _ _ _ _ => rfl)
      unfold up1
      split
      · next e => rw [e]; omega
      · rfl
    · rw [gate_go (refE_1 hw (by omega) (by omega)), Int.toNat_natCast]
      unfold Led.looseR
      rw [if_neg (by omega)]
      have := b.upd1 hw ((Led.kAt l w).n 1 - -n)
      rw [hn1] at this
      rw [hn1]
      refine this.congr (fun x hx => ?_) (fun _ _ _ _ => rfl)
      unfold up1
      split
      · omega
      · rfl
/-- So much more of a good is locked, or less. -/
theorem Bl.bind2 (b : Bl g l hc lk) (hw : w < l.length) {i : Nat} (hi : i < g) (n : Int) (h0 : 0 ≤ lk w i + n) (hb : lk w i ≤ 1099511627776) (hf : 0 < n → n ≤ freeL l w i ∧ n ≤ 1099511627776) :
    Bl g (bindL g l w i n) hc (up2 lk w i (lk w i + n)) := by
  have hn1 := b.k w hw i hi
  unfold bindL
  rw [if_neg (by omega)]
  by_cases hn : 0 < n
  · obtain ⟨hf1, hf2⟩ := hf hn
    unfold freeL at hf1
    rw [if_neg (by omega), Int.toNat_natCast, Int.toNat_natCast] at hf1
    rw [if_pos hn, gate_go (refG_of (refE_1 hw (by omega) hf2) hi), Int.toNat_natCast, Int.toNat_natCast]
    unfold Led.keepR
    rw [if_neg (by omega)]
    have := b.upd2 hw i ((Led.kAt l w).n (6 + i) + n)
    rw [hn1] at this
    rw [hn1]
    exact this
  · rw [if_neg hn]
    by_cases h00 : n = 0
    · subst h00
      rw [gate_no (refG_low (by omega))]
      refine b.congr (fun _ _ => rfl) (fun x hx j hj => ?_)
      unfold up2
      split
      · next e => rw [e.1, e.2]; omega
      · rfl
    · rw [gate_go (refG_of (refE_1 hw (by omega) (by omega)) hi), Int.toNat_natCast, Int.toNat_natCast]
      unfold Led.looseR
      rw [if_neg (by omega)]
      have := b.upd2 hw i ((Led.kAt l w).n (6 + i) - -n)
      rw [hn1] at this
      rw [hn1]
      refine this.congr (fun _ _ => rfl) (fun x hx j hj => ?_)
      unfold up2
      split
      · omega
      · rfl
/-- A trade: cash that is held goes to the seller, pieces that are locked to the buyer. -/
theorem Bl.trade (b : Bl g l hc lk) (hg : g ≤ 4) {s q : Nat} (hs : s < l.length) (hq : q < l.length) {i : Nat} (hi : i < g) {n p : Int} (hn : 1 ≤ n) (hp : 0 ≤ p) (h1 : n * p ≤ hc q) (h2 : n ≤ lk s i)
    (hb1 : hc q ≤ 1099511627776) (hb2 : lk s i ≤ 1099511627776) :
    Bl g (tradeL g l i s q n p) (up1 hc q (hc q - n * p)) (up2 lk s i (lk s i - n)) := by
  have hnp : 0 ≤ n * p := Int.mul_nonneg (by omega) hp
  have hl1 : (tradeL1 l s q n p).length = l.length := tradeL1_len _ _ _ _ _
  have hB1 : Bl g (tradeL1 l s q n p) (up1 hc q (hc q - n * p)) lk := by
    unfold tradeL1
    generalize n * p = m at *
    by_cases h0 : m < 1
    · rw [gate_no (refE_low h0)]
      refine b.congr (fun x hx => ?_) (fun _ _ _ _ => rfl)
      unfold up1
      split
      · next e => rw [e]; omega
      · rfl
    · rw [gate_go (refE_2 hq hs (by omega) (by omega)), Int.toNat_natCast, Int.toNat_natCast]
      have hn1 := b.h q hq
      unfold Led.overR
      rw [if_neg (by omega)]
      unfold Led.over3 Led.over2 Led.over1
      have k1 := b.upd1 hq ((Led.kAt l q).n 1 - m)
      rw [hn1] at k1 ⊢
      have k2 := k1.upd0 (w := q) (by rw [Led.upd_len]; exact hq) 0 (by omega) (by omega) ((Led.kAt (Led.upd l q 1 (hc q - m)) q).n 0 - m)
      exact k2.upd0 (w := s) (by rw [Led.upd_len, Led.upd_len]; exact hs) 0 (by omega) (by omega) _
  unfold tradeL
  generalize tradeL1 l s q n p = l1 at *
  have hs1 : s < l1.length := by omega
  have hq1 : q < l1.length := by omega
  rw [gate_go (refG_of (refE_2 hs1 hq1 hn (by omega)) hi), Int.toNat_natCast, Int.toNat_natCast, Int.toNat_natCast]
  have hn1 := hB1.k s hs1 i hi
  unfold Led.overR
  rw [if_neg (by omega)]
  unfold Led.over3 Led.over2 Led.over1
  have k1 := hB1.upd2 hs1 i ((Led.kAt l1 s).n (6 + i) - n)
  rw [hn1] at k1 ⊢
  have k2 := k1.upd0 (w := s) (by rw [Led.upd_len]; exact hs1) (2 + i) (by omega) (by omega) ((Led.kAt (Led.upd l1 s (6 + i) (lk s i - n)) s).n (2 + i) - n)
  exact k2.upd0 (w := q) (by rw [Led.upd_len, Led.upd_len]; exact hq1) (2 + i) (by omega) (by omega) _
end Go.Proofs.YtpekfpfhonechaaGreat

namespace Go.Proofs.YtpekfpfhonechaaGreat
set_option linter.unusedSimpArgs false
set_option linter.unusedVariables false

/-- What orders weigh, by pieces. -/
def wsum (c : Cal.Od → Int) : List Cal.Od → Int
  | [] => 0
  | o :: r => c o * o.am + wsum c r
def gsum (c : Cal.Od → Int) (fs : List Cal.Fi) : List Cal.Od → Int
  | [] => 0
  | o :: r => c o * Cal.got fs o.id + gsum c fs r
def fsum (c : Cal.Fi → Int) : List Cal.Fi → Int
  | [] => 0
  | f :: r => c f * f.2.2 + fsum c r
theorem fsum_app (c : Cal.Fi → Int) : ∀ a b : List Cal.Fi, fsum c (a ++ b) = fsum c a + fsum c b
  | [], b => by simp [fsum]
  | f :: a, b => by simp only [List.cons_append, fsum, fsum_app c a b]; omega
theorem fsum_nn {c : Cal.Fi → Int} : ∀ l : List Cal.Fi, (∀ f ∈ l, 0 ≤ c f ∧ 0 ≤ f.2.2) → 0 ≤ fsum c l
  | [], _ => Int.le_refl _
  | f :: r, h => by
    have h1 := h f (List.mem_cons_self ..)
    have h2 := fsum_nn r (fun x hx => h x (List.mem_cons_of_mem _ hx))
    have := Int.mul_nonneg h1.1 h1.2
    simp only [fsum]
    omega
theorem fsum_take {c : Cal.Fi → Int} {l : List Cal.Fi} (h : ∀ f ∈ l, 0 ≤ c f ∧ 0 ≤ f.2.2) (k : Nat) : fsum c (l.take k) ≤ fsum c l := by
  have e := fsum_app c (l.take k) (l.drop k)
  rw [List.take_append_drop] at e
  have := fsum_nn (l.drop k) (fun f hf => h f (List.mem_of_mem_drop hf))
  omega
theorem wsum_nn {c : Cal.Od → Int} : ∀ l : List Cal.Od, (∀ o ∈ l, 0 ≤ c o ∧ 0 ≤ o.am) → 0 ≤ wsum c l
  | [], _ => Int.le_refl _
  | f :: r, h => by
    have h1 := h f (List.mem_cons_self ..)
    have h2 := wsum_nn r (fun x hx => h x (List.mem_cons_of_mem _ hx))
    have := Int.mul_nonneg h1.1 h1.2
    simp only [wsum]
    omega
theorem gsum_none (c : Cal.Od → Int) : ∀ os : List Cal.Od, gsum c [] os = 0
  | [] => rfl
  | o :: r => by simp only [gsum, Cal.got, gsum_none c r]; omega
/-- One fill, told by the orders. -/
def one1 (c : Cal.Od → Int) (f : Cal.Fi) : List Cal.Od → Int
  | [] => 0
  | o :: r => (if f.1 = o.id then c o * f.2.2 else 0) + one1 c f r
theorem gsum_cons (c : Cal.Od → Int) (f : Cal.Fi) (fs : List Cal.Fi) : ∀ os : List Cal.Od, gsum c (f :: fs) os = one1 c f os + gsum c fs os
  | [] => rfl
  | o :: r => by
    simp only [gsum, one1, Cal.got, gsum_cons c f fs r]
    split
    · rw [Int.mul_add]; omega
    · rw [Int.zero_add]; omega
theorem one1_none {c : Cal.Od → Int} {f : Cal.Fi} : ∀ os : List Cal.Od, (∀ o ∈ os, f.1 ≠ o.id) → one1 c f os = 0
  | [], _ => rfl
  | o :: r, h => by
    simp only [one1]
    rw [if_neg (h o (List.mem_cons_self ..)), one1_none r (fun x hx => h x (List.mem_cons_of_mem _ hx))]
    rfl
theorem one1_one {c : Cal.Od → Int} {f : Cal.Fi} {o : Cal.Od} (e : f.1 = o.id) : ∀ os : List Cal.Od, os.Pairwise (fun a b => a.id ≠ b.id) → o ∈ os → one1 c f os = c o * f.2.2
  | q :: r, hp, hm => by
    rw [List.pairwise_cons] at hp
    simp only [one1]
    rcases List.mem_cons.1 hm with h | h
    · subst h
      rw [if_pos e, one1_none r (fun x hx h => hp.1 x hx (e.symm.trans h))]
      omega
    · rw [if_neg (fun h2 => hp.1 o h (h2.symm.trans e)), one1_one e r hp.2 h]
      omega
/-- What was filled, told by the orders and by the fills. -/
theorem gsum_fsum {c : Cal.Od → Int} {os : List Cal.Od} (hp : os.Pairwise fun a b => a.id ≠ b.id) {cF : Cal.Fi → Int} : ∀ fs : List Cal.Fi, (∀ f ∈ fs, ∃ o ∈ os, f.1 = o.id ∧ cF f = c o) → gsum c fs os = fsum cF fs
  | [], _ => gsum_none c os
  | f :: r, h => by
    obtain ⟨o, ho, e, hc⟩ := h f (List.mem_cons_self ..)
    rw [gsum_cons, one1_one e os hp ho, gsum_fsum hp r (fun x hx => h x (List.mem_cons_of_mem _ hx))]
    simp only [fsum, hc]
/-- What is left behind a clearing weighs what was there less what was filled. -/
theorem wsum_left {c : Cal.Od → Int} (hc : ∀ o n, c (Cal.Od.setAm o n) = c o) (fs : List Cal.Fi) : ∀ os : List Cal.Od, wsum c ((os.map fun o => Cal.Od.setAm o (o.am - Cal.got fs o.id)).filter fun o => !(o.am == 0)) = wsum c os - gsum c fs os
  | [] => rfl
  | o :: r => by
    have ih := wsum_left hc fs r
    simp only [List.map_cons, wsum, gsum]
    have ea : Cal.Od.am (Cal.Od.setAm o (o.am - Cal.got fs o.id)) = o.am - Cal.got fs o.id := rfl
    by_cases h : o.am - Cal.got fs o.id = 0
    · rw [List.filter_cons_of_neg (by rw [ea, h]; simp), ih]
      have : Cal.got fs o.id = o.am := by omega
      rw [this]; omega
    · rw [List.filter_cons_of_pos (by rw [ea]; simpa using h)]
      simp only [wsum, ih, ea, hc]
      rw [Int.mul_sub]
      omega
theorem wsum_clr {c : Cal.Od → Int} (hc : ∀ o n, c (Cal.Od.setAm o n) = c o) (B : Cal.Bo) : wsum c B.clr.os = wsum c B.os - gsum c B.fl B.os := by
  rw [Cal.clr_os]
  exact wsum_left hc _ _
theorem gsum_le {c : Cal.Od → Int} {fs : List Cal.Fi} : ∀ os : List Cal.Od, (∀ o ∈ os, 0 ≤ c o ∧ 0 ≤ Cal.got fs o.id ∧ Cal.got fs o.id ≤ o.am) → 0 ≤ gsum c fs os ∧ gsum c fs os ≤ wsum c os
  | [], _ => ⟨Int.le_refl _, Int.le_refl _⟩
  | o :: r, h => by
    have h1 := h o (List.mem_cons_self ..)
    have h2 := gsum_le r (fun x hx => h x (List.mem_cons_of_mem _ hx))
    have h3 := Int.mul_nonneg h1.1 h1.2.1
    have h4 := Int.mul_le_mul_of_nonneg_left h1.2.2 h1.1
    simp only [gsum, wsum]
    omega

/-- A client's pieces among fills. -/
def amO (w : Nat) (fs : List Cal.Fi) : Int := fsum (fun f => if f.2.1 = (w : Int) then 1 else 0) fs
theorem amO_cons (w : Nat) (f : Cal.Fi) (r : List Cal.Fi) : amO w (f :: r) = (if f.2.1 = (w : Int) then f.2.2 else 0) + amO w r := by
  unfold amO
  simp only [fsum]
  split <;> omega
theorem amO_less (w : Nat) (f : Cal.Fi) (r : List Cal.Fi) (n : Int) : amO w (lessF (f :: r) n) = amO w (f :: r) - (if f.2.1 = (w : Int) then n else 0) := by
  rw [amO_cons]
  unfold lessF
  simp only
  split
  · next h =>
    split <;> omega
  · next h =>
    rw [amO_cons]
    simp only
    split <;> omega
theorem amO_nn {w : Nat} {fs : List Cal.Fi} (h : posF fs) : 0 ≤ amO w fs := by
  refine fsum_nn fs fun f hf => ⟨?_, by have := h f hf; omega⟩
  split <;> omega
theorem posF_nil {fs : List Cal.Fi} (h : posF fs) (e : amF fs = 0) : fs = [] := by
  cases fs with
  | nil => rfl
  | cons f r =>
    exfalso
    have h1 := h f (List.mem_cons_self ..)
    have h2 : ∀ l : List Cal.Fi, posF l → 0 ≤ amF l := by
      intro l
      induction l with
      | nil => intro _; exact Int.le_refl _
      | cons x l ih =>
        intro hp
        have a1 := hp x (List.mem_cons_self ..)
        have a2 := ih (fun y hy => hp y (List.mem_cons_of_mem _ hy))
        simp only [amF]
        omega
    have := h2 r (fun y hy => h y (List.mem_cons_of_mem _ hy))
    simp only [amF] at e
    omega
theorem less_pos {f : Cal.Fi} {r : List Cal.Fi} {n : Int} (h : posF (f :: r)) (hn : 0 ≤ n) (hle : n ≤ f.2.2) : posF (lessF (f :: r) n) := by
  have h1 := h f (List.mem_cons_self ..)
  intro x hx
  unfold lessF at hx
  simp only at hx
  split at hx
  · exact h x (List.mem_cons_of_mem _ hx)
  · next h2 =>
    rcases List.mem_cons.1 hx with e | e
    · subst e
      show 0 < f.2.2 - n ∧ f.2.2 - n ≤ _
      omega
    · exact h x (List.mem_cons_of_mem _ e)
theorem less_own {c : Int → Prop} {f : Cal.Fi} {r : List Cal.Fi} {n : Int} (h : ∀ x ∈ f :: r, c x.2.1) : ∀ x ∈ lessF (f :: r) n, c x.2.1 := by
  intro x hx
  unfold lessF at hx
  simp only at hx
  split at hx
  · exact h x (List.mem_cons_of_mem _ hx)
  · rcases List.mem_cons.1 hx with e | e
    · subst e; exact h f (List.mem_cons_self ..)
    · exact h x (List.mem_cons_of_mem _ e)
/-- Buyers and sellers are settled. -/
theorem setl_bl {g : Nat} (hg : g ≤ 4) {i : Nat} (hi : i < g) {p : Int} (hp : 0 ≤ p) : ∀ (k : Nat) (l : Ks) (b s : List Cal.Fi) (hc : Nat → Int) (lk : Nat → Nat → Int), Bl g l hc lk → posF b → posF s → amF b = amF s → b.length + s.length ≤ k →
    (∀ f ∈ b, ∃ w : Nat, f.2.1 = w ∧ w < l.length) → (∀ f ∈ s, ∃ w : Nat, f.2.1 = w ∧ w < l.length) → (∀ w, w < l.length → p * amO w b ≤ hc w ∧ hc w ≤ 1099511627776) → (∀ w, w < l.length → amO w s ≤ lk w i ∧ lk w i ≤ 1099511627776) →
    Bl g (setl g i p k l b s) (fun w => hc w - p * amO w b) (fun w j => if j = i then lk w j - amO w s else lk w j)
  | 0, l, b, s, hc, lk, hb, pb, ps, hab, hk, ob, os, h1, h2 => by
    have e1 : b = [] := List.eq_nil_of_length_eq_zero (by omega)
    have e2 : s = [] := List.eq_nil_of_length_eq_zero (by omega)
    subst e1 e2
    refine hb.congr (fun w hw => ?_) (fun w hw j hj => ?_)
    · show hc w = hc w - p * amO w []
      unfold amO fsum; omega
    · show lk w j = if j = i then lk w j - amO w [] else lk w j
      unfold amO fsum; split <;> omega
  | k + 1, l, [], s, hc, lk, hb, pb, ps, hab, hk, ob, os, h1, h2 => by
    have e2 : s = [] := posF_nil ps (by rw [← hab]; rfl)
    subst e2
    refine hb.congr (fun w hw => ?_) (fun w hw j hj => ?_)
    · show hc w = hc w - p * amO w []
      unfold amO fsum; omega
    · show lk w j = if j = i then lk w j - amO w [] else lk w j
      unfold amO fsum; split <;> omega
  | k + 1, l, f :: b, [], hc, lk, hb, pb, ps, hab, hk, ob, os, h1, h2 => by
    have e2 : f :: b = [] := posF_nil pb (by rw [hab]; rfl)
    cases e2
  | k + 1, l, f :: b, q :: s, hc, lk, hb, pb, ps, hab, hk, ob, os, h1, h2 => by
    obtain ⟨w1, hw1, hl1⟩ := ob f (List.mem_cons_self ..)
    obtain ⟨w2, hw2, hl2⟩ := os q (List.mem_cons_self ..)
    have hf := pb f (List.mem_cons_self ..)
    have hq := ps q (List.mem_cons_self ..)
    obtain ⟨n, hn⟩ : ∃ n, min f.2.2 q.2.2 = n := ⟨_, rfl⟩
    have hn1 : 1 ≤ n := by omega
    have hnf : n ≤ f.2.2 := by omega
    have hnq : n ≤ q.2.2 := by omega
    have a1 := amO_nn (w := w1) (fun x hx => pb x (List.mem_cons_of_mem _ hx))
    have a2 := amO_nn (w := w2) (fun x hx => ps x (List.mem_cons_of_mem _ hx))
    have c1 := amO_cons w1 f b
    have c2 := amO_cons w2 q s
    rw [if_pos hw1] at c1
    rw [if_pos hw2] at c2
    have hnp : n * p ≤ hc w1 := by
      have h3 := (h1 w1 hl1).1
      have h4 : n ≤ amO w1 (f :: b) := by omega
      have h5 := Int.mul_le_mul_of_nonneg_left h4 hp
      rw [Int.mul_comm n p]
      omega
    have ht := hb.trade hg hl2 hl1 hi hn1 hp hnp (by have := (h2 w2 hl2).1; omega) (h1 w1 hl1).2 (h2 w2 hl2).2
    show Bl g (setl g i p k (tradeL g l i q.2.1 f.2.1 (min f.2.2 q.2.2) p) (lessF (f :: b) (min f.2.2 q.2.2)) (lessF (q :: s) (min f.2.2 q.2.2))) _ _
    rw [hn, hw1, hw2]
    have hlen : (tradeL g l i w2 w1 n p).length = l.length := tradeL_len _ _ _ _ _ _ _
    have hb1 := fun w => amO_less w f b n
    have hb2 := fun w => amO_less w q s n
    have hrec := setl_bl hg hi hp k _ (lessF (f :: b) n) (lessF (q :: s) n) _ _ ht (less_pos pb (by omega) hnf) (less_pos ps (by omega) hnq)
      (by rw [lessF_am, lessF_am, hab])
      (by
        have l1 := lessF_len f b n
        have l2 := lessF_len q s n
        simp only [List.length_cons] at hk
        rcases Int.le_total f.2.2 q.2.2 with h | h
        · have := l1.2 (by omega); omega
        · have := l2.2 (by omega); omega)
      (by rw [hlen]; exact less_own (c := fun z => ∃ w : Nat, z = w ∧ w < l.length) ob) (by rw [hlen]; exact less_own (c := fun z => ∃ w : Nat, z = w ∧ w < l.length) os)
      (fun w hw => by
        have h3 := h1 w (by omega)
        rw [hb1 w, hw1]
        unfold up1
        by_cases e : w = w1
        · rw [if_pos (show w = w1 from e), if_pos (show ((w1 : Nat) : Int) = (w : Int) by rw [e]), e, Int.mul_sub, Int.mul_comm n p]
          rw [e] at h3
          have := Int.mul_nonneg hp (show (0 : Int) ≤ n by omega)
          omega
        · rw [if_neg (show ¬ w = w1 from e), if_neg (show ¬ ((w1 : Nat) : Int) = (w : Int) by omega), Int.sub_zero]
          exact h3)
      (fun w hw => by
        have h3 := h2 w (by omega)
        rw [hb2 w, hw2]
        unfold up2
        by_cases e : w = w2
        · rw [if_pos (show w = w2 ∧ i = i from ⟨e, rfl⟩), if_pos (show ((w2 : Nat) : Int) = (w : Int) by rw [e]), e]
          rw [e] at h3
          omega
        · rw [if_neg (show ¬ (w = w2 ∧ i = i) from fun h => e h.1), if_neg (show ¬ ((w2 : Nat) : Int) = (w : Int) by omega), Int.sub_zero]
          exact h3)
    refine hrec.congr (fun w hw => ?_) (fun w hw j hj => ?_)
    · rw [hb1 w, hw1]
      unfold up1
      by_cases e : w = w1
      · rw [if_pos (show w = w1 from e), if_pos (show ((w1 : Nat) : Int) = (w : Int) by rw [e]), e, Int.mul_sub, Int.mul_comm n p]
        omega
      · rw [if_neg (show ¬ w = w1 from e), if_neg (show ¬ ((w1 : Nat) : Int) = (w : Int) by omega), Int.sub_zero]
    · rw [hb2 w, hw2]
      unfold up2
      by_cases hji : j = i
      · rw [if_pos hji, if_pos hji]
        by_cases e : w = w2
        · rw [if_pos (show w = w2 ∧ j = i from ⟨e, hji⟩), if_pos (show ((w2 : Nat) : Int) = (w : Int) by rw [e]), e, hji]
          omega
        · rw [if_neg (show ¬ (w = w2 ∧ j = i) from fun h => e h.1), if_neg (show ¬ ((w2 : Nat) : Int) = (w : Int) by omega), Int.sub_zero]
      · rw [if_neg hji, if_neg hji, if_neg (show ¬ (w = w2 ∧ j = i) from fun h => hji h.2)]
end Go.Proofs.YtpekfpfhonechaaGreat
