/- The whole: the course of a clock auction of one good, as data. -/
import Derived.Test.YtpekfpfhonechaaGreatWa52
namespace Go.Proofs.YtpekfpfhonechaaGreat
set_option linter.unusedSimpArgs false
set_option linter.unusedVariables false

/-- Cash and pieces when the first k bidders have been settled with. -/
theorem cloS_mv {H : Hs} (gd : Gd H) (bal : Bal H) {i : Nat} (hi : i < H.g) {x : Clo.Au × Int} (hx : H.ss[i]? = some (some x)) (hn : x.1.next.1 = true) {sn : Nat} (hsn : x.2 = sn) :
    ∀ k, k ≤ H.l.length → ∀ w, (Led.kAt (cloS H.g i sn x.1.next.2.2.saleP x.1.next.2.2.saleAt (hldM x.1) H.l k) w).n 0 = (Led.kAt H.l w).n 0 + ((if w = sn then Clo.sumTo x.1.next.2.2.saleAt k * x.1.next.2.2.saleP else 0) - (if w < k then x.1.next.2.2.saleAt w * x.1.next.2.2.saleP else 0)) ∧
      (Led.kAt (cloS H.g i sn x.1.next.2.2.saleP x.1.next.2.2.saleAt (hldM x.1) H.l k) w).n (2 + i) = (Led.kAt H.l w).n (2 + i) + ((if w < k then x.1.next.2.2.saleAt w else 0) - (if w = sn then Clo.sumTo x.1.next.2.2.saleAt k else 0)) := by
  obtain ⟨⟨sn', hsn', hsl⟩, hw, hmono, _⟩ := clo_pre gd hx hn
  obtain rfl : sn = sn' := by omega
  have hcan := fun k (hk : k < H.l.length) => clo_can gd bal hi hx hn hsn hk
  have hbl := fun k (hk : k ≤ H.l.length) => cloS_bl gd bal hi hx hn hsn k hk
  have hg4 := gd.inv.g4
  generalize x.1.next.2.2.saleAt = gs at *
  generalize x.1.next.2.2.saleP = pr at *
  intro k
  induction k with
  | zero =>
    intro _ w
    have e : Clo.sumTo gs 0 = 0 := rfl
    rw [e, Int.zero_mul, if_neg (Nat.not_lt_zero w), if_neg (Nat.not_lt_zero w)]
    refine ⟨?_, ?_⟩
    · show (Led.kAt H.l w).n 0 = _
      split <;> omega
    · show (Led.kAt H.l w).n (2 + i) = _
      split <;> omega
  | succ k ih =>
    intro hk w
    obtain ⟨h1, h2⟩ := ih (by omega) w
    have hB := hbl k (by omega)
    have hlen : (cloS H.g i sn pr gs (hldM x.1) H.l k).length = H.l.length := cloS_len _ _ _ _ _ _ _ _
    obtain ⟨g1, g2, g3⟩ := hw k (by omega)
    obtain ⟨c1, c2, c3, c4, c5, _⟩ := hcan k (by omega)
    have hm : Clo.sumTo gs (k + 1) = Clo.sumTo gs k + gs k := rfl
    have e0 : cloS H.g i sn pr gs (hldM x.1) H.l (k + 1) = bindL H.g (tradeL H.g (cloS H.g i sn pr gs (hldM x.1) H.l k) i sn k (gs k) pr) k (-1) (gs k * pr - hldM x.1 k) := rfl
    rw [e0, bindL_same _ _ _ _ _ w 0 (Or.inl rfl), bindL_same _ _ _ _ _ w (2 + i) (Or.inr ⟨by omega, by omega⟩), hm, Int.add_mul]
    by_cases h0 : gs k = 0
    · rw [h0, trade0, h1, h2, Int.zero_mul]
      have q1 : (if w < k + 1 then gs w * pr else 0) = if w < k then gs w * pr else 0 := by
        by_cases e : w = k
        · rw [e, h0, Int.zero_mul]; split <;> split <;> rfl
        · by_cases e2 : w < k
          · rw [if_pos e2, if_pos (by omega)]
          · rw [if_neg e2, if_neg (by omega)]
      have q2 : (if w < k + 1 then gs w else 0) = if w < k then gs w else 0 := by
        by_cases e : w = k
        · rw [e, h0]; split <;> split <;> rfl
        · by_cases e2 : w < k
          · rw [if_pos e2, if_pos (by omega)]
          · rw [if_neg e2, if_neg (by omega)]
      rw [q1, q2]
      refine ⟨?_, ?_⟩ <;> split <;> omega
    · obtain ⟨_, ht⟩ := trade_mv hB hg4 (s := sn) (q := k) (by omega) (by omega) hi (n := gs k) (p := pr) (by omega) g2
        (by rw [if_neg (by omega)]; omega) (by rw [if_pos ⟨rfl, rfl⟩]; omega) (by rw [if_neg (by omega)]; omega) (by rw [if_pos ⟨rfl, rfl⟩]; omega)
      obtain ⟨t1, t2, _⟩ := ht w
      rw [t1, t2, h1, h2]
      by_cases e : w = k
      · rw [if_pos e, if_pos (show w < k + 1 by omega), if_neg (show ¬ w < k by omega), if_pos e, if_neg (show ¬ w < k by omega), if_pos (show w < k + 1 by omega), e]
        refine ⟨?_, ?_⟩ <;> split <;> omega
      · rw [if_neg e, if_neg e]
        by_cases e2 : w < k
        · rw [if_pos e2, if_pos (show w < k + 1 by omega), if_pos e2, if_pos (show w < k + 1 by omega)]
          refine ⟨?_, ?_⟩ <;> split <;> omega
        · rw [if_neg e2, if_neg (show ¬ w < k + 1 by omega), if_neg e2, if_neg (show ¬ w < k + 1 by omega)]
          refine ⟨?_, ?_⟩ <;> split <;> omega
theorem close_mv {H : Hs} (gd : Gd H) (bal : Bal H) {i : Nat} (hi : i < H.g) {x : Clo.Au × Int} (hx : H.ss[i]? = some (some x)) (hn : x.1.next.1 = true) {sn : Nat} (hsn : x.2 = sn) (w : Nat) :
    (Led.kAt (closeL H.g H.l i (x.1.next.2.2, x.2) (hldM x.1)) w).n 0 = (Led.kAt H.l w).n 0 + ((if w = sn then Clo.sumTo x.1.next.2.2.saleAt H.l.length * x.1.next.2.2.saleP else 0) - (if w < H.l.length then x.1.next.2.2.saleAt w * x.1.next.2.2.saleP else 0)) ∧
      (Led.kAt (closeL H.g H.l i (x.1.next.2.2, x.2) (hldM x.1)) w).n (2 + i) = (Led.kAt H.l w).n (2 + i) + ((if w < H.l.length then x.1.next.2.2.saleAt w else 0) - (if w = sn then Clo.sumTo x.1.next.2.2.saleAt H.l.length else 0)) := by
  have h := cloS_mv gd bal hi hx hn hsn _ (Nat.le_refl _) w
  have hdl := (clo_pre gd hx hn).2.2.2.2
  have hg4 := gd.inv.g4
  unfold closeL
  rw [bindL_same _ _ _ _ _ w 0 (Or.inl rfl), bindL_same _ _ _ _ _ w (2 + i) (Or.inr ⟨by omega, by omega⟩)]
  show (Led.kAt (cloS H.g i x.2 x.1.next.2.2.saleP x.1.next.2.2.saleAt (hldM x.1) H.l x.1.next.2.2.ds.length) w).n 0 = _ ∧ (Led.kAt (cloS H.g i x.2 x.1.next.2.2.saleP x.1.next.2.2.saleAt (hldM x.1) H.l x.1.next.2.2.ds.length) w).n (2 + i) = _
  rw [hdl, hsn]
  exact h
/-- The price of a sale that sells anything. -/
theorem sale_from {A : Clo.Au} (h : Clo.Inv A) : (A.start ≤ A.saleP ∧ (A.saleP - A.start).tmod A.step = 0) ∨ ∀ i, A.saleAt i = 0 := by
  have h1 := h.sp
  have h2 := h.rd
  unfold Clo.Au.saleP Clo.Au.saleAt
  by_cases hs : A.state = 1
  · rw [if_pos hs]
    left
    by_cases hp : A.plain
    · rw [if_pos hp]
      have e : A.price = A.start + (A.round - 1) * A.step := rfl
      have n0 : 0 ≤ (A.round - 1) * A.step := Int.mul_nonneg (by omega) (by omega)
      refine ⟨by omega, ?_⟩
      rw [show A.price - A.start = (A.round - 1) * A.step by omega]
      exact Int.mul_tmod_left _ _
    · rw [if_neg hp]
      have hr : A.round ≠ 1 := fun e => hp (Or.inl e)
      have e : A.price = A.start + (A.round - 1) * A.step := rfl
      have e2 : (A.round - 1) * A.step = (A.round - 2) * A.step + A.step := by
        have : A.round - 1 = (A.round - 2) + 1 := by omega
        rw [this, Int.add_mul]; omega
      have n0 : 0 ≤ (A.round - 2) * A.step := Int.mul_nonneg (by omega) (by omega)
      refine ⟨by omega, ?_⟩
      rw [show A.price - A.step - A.start = (A.round - 2) * A.step by omega]
      exact Int.mul_tmod_left _ _
  · right
    intro i
    rw [if_neg hs]
theorem sale_zero {A : Clo.Au} (h : Clo.Inv A) {i : Nat} (hi : i < A.ds.length) (h1 : Clo.nowOf A.ds i = 0) (h2 : Clo.wasOf A.ds i = 0) : A.saleAt i = 0 := by
  unfold Clo.Au.saleAt
  split
  · next hs =>
    split
    · exact h1
    · next hp =>
      have g := (Clo.Inv.sh h hs hp).each (i := i) (by rw [Clo.gaps_len]; omega)
      rw [Clo.gaps_at A hi] at g
      omega
  · rfl
/-- An auction that runs: what was offered; the seller wants nothing. -/
structure Run (n fr st : Int) (A : Clo.Au) : Prop where
  su : A.supply = n
  sr : A.start = fr
  sp : A.step = st
  z1 : Clo.nowOf A.ds 0 = 0
  z2 : Clo.wasOf A.ds 0 = 0
variable {n fr st : Int}
theorem bid_oth (A : Clo.Au) {v w : Nat} (m : Int) (h : v ≠ w) : Clo.nowOf (A.bid w m).2.ds v = Clo.nowOf A.ds v ∧ Clo.wasOf (A.bid w m).2.ds v = Clo.wasOf A.ds v := by
  unfold Clo.Au.bid
  split
  · exact ⟨rfl, rfl⟩
  · split
    · exact ⟨rfl, rfl⟩
    · split
      · exact ⟨rfl, rfl⟩
      · have e : Clo.dAt (A.ds.set (w : Int).toNat ⟨Clo.wasOf A.ds (w : Int).toNat, m⟩) v = Clo.dAt A.ds v := by
          unfold Clo.dAt
          rw [Int.toNat_natCast, List.getElem?_set_ne (fun e => h e.symm)]
        exact ⟨congrArg Clo.Dm.now e, congrArg Clo.Dm.was e⟩
theorem bid_three (A : Clo.Au) (w m : Int) : (A.bid w m).2.supply = A.supply ∧ (A.bid w m).2.start = A.start ∧ (A.bid w m).2.step = A.step ∧ (A.bid w m).2.round = A.round := by
  unfold Clo.Au.bid
  split
  · exact ⟨rfl, rfl, rfl, rfl⟩
  · split
    · exact ⟨rfl, rfl, rfl, rfl⟩
    · split <;> exact ⟨rfl, rfl, rfl, rfl⟩
theorem Run.bid {A : Clo.Au} (h : Run n fr st A) {w : Nat} (hw : w ≠ 0) (m : Int) : Run n fr st (A.bid w m).2 := by
  obtain ⟨a, b, c, _⟩ := bid_three A w m
  obtain ⟨d, e⟩ := bid_oth A (v := 0) m (fun e => hw e.symm)
  exact ⟨a.trans h.su, b.trans h.sr, c.trans h.sp, d.trans h.z1, e.trans h.z2⟩
theorem Run.cut {A : Clo.Au} (h : Run n fr st A) (l : Ks) (w : Nat) (held : Int) : Run n fr st (cutA l A w held) := by
  unfold cutA
  split
  · next hc =>
    by_cases hw : w = 0
    · subst hw
      rw [h.z1] at hc
      have e : (A.bid (0 : Nat) (cutQ l A 0 held)).2 = A := by
        unfold Clo.Au.bid
        split
        · rfl
        · rw [if_pos (Or.inr (by omega))]
      rw [e]
      exact h
    · exact h.bid hw _
  · exact h
theorem next_three (A : Clo.Au) : A.next.2.2.supply = A.supply ∧ A.next.2.2.start = A.start ∧ A.next.2.2.step = A.step := by
  unfold Clo.Au.next
  split
  · exact ⟨rfl, rfl, rfl⟩
  · split
    · exact ⟨rfl, rfl, rfl⟩
    · split <;> exact ⟨rfl, rfl, rfl⟩
theorem Run.next {A : Clo.Au} (h : Run n fr st A) (hl : 0 < A.ds.length) : Run n fr st A.next.2.2 := by
  obtain ⟨a, b, c⟩ := next_three A
  refine ⟨a.trans h.su, b.trans h.sr, c.trans h.sp, ?_, ?_⟩
  · unfold Clo.Au.next
    split
    · exact h.z1
    · split
      · exact h.z1
      · split
        · exact h.z1
        · exact (Clo.nowOf_roll A.ds hl).trans h.z1
  · unfold Clo.Au.next
    split
    · exact h.z2
    · split
      · exact h.z2
      · split
        · exact h.z2
        · exact (Clo.wasOf_roll A.ds hl).trans h.z1
/-- The accounts while it runs, and when it is over. -/
def AcR (n : Int) (l : Ks) : Prop := ∀ w, w < 4 → (Led.kAt l w).n 0 = 1048576 ∧ (Led.kAt l w).n 2 = if w = 0 then n else 0
def AcD (n fr st : Int) (l : Ks) : Prop := ∃ (p : Int) (f : Nat → Int), 0 ≤ p ∧ (∀ w, w < 4 → 0 ≤ f w) ∧ f 0 = 0 ∧ f 1 + f 2 + f 3 ≤ n ∧ (0 < f 1 + f 2 + f 3 → fr ≤ p ∧ (p - fr).tmod st = 0) ∧
  ∀ w, w < 4 → (Led.kAt l w).n 0 = 1048576 + ((if w = 0 then (f 1 + f 2 + f 3) * p else 0) - f w * p) ∧ (Led.kAt l w).n 2 = f w + if w = 0 then n - (f 1 + f 2 + f 3) else 0
def Alk (l l' : Ks) : Prop := ∀ w, w < 4 → (Led.kAt l' w).n 0 = (Led.kAt l w).n 0 ∧ (Led.kAt l' w).n 2 = (Led.kAt l w).n 2
theorem AcR.alk {l l' : Ks} (h : AcR n l) (k : Alk l l') : AcR n l' := fun w hw => ⟨(k w hw).1.trans (h w hw).1, (k w hw).2.trans (h w hw).2⟩
theorem AcD.alk {l l' : Ks} (h : AcD n fr st l) (k : Alk l l') : AcD n fr st l' := by
  obtain ⟨p, f, h1, h2, h3, h4, h5, h6⟩ := h
  exact ⟨p, f, h1, h2, h3, h4, h5, fun w hw => ⟨(k w hw).1.trans (h6 w hw).1, (k w hw).2.trans (h6 w hw).2⟩⟩
theorem Alk.bind (g : Nat) (l : Ks) (who thing m : Int) : Alk l (bindL g l who thing m) := fun w _ => ⟨bindL_same _ _ _ _ _ w 0 (Or.inl rfl), bindL_same _ _ _ _ _ w 2 (Or.inr ⟨by omega, by omega⟩)⟩
/-- A house in which one auction runs, or ran; clients 1 to z want nothing any more. -/
structure Crs (n fr st : Int) (T : Int) (z : Nat) (H : Hs) : Prop where
  bk : ∀ i, (H.book i).os = []
  s1 : ∀ i, i ≠ 0 → ∀ x : Clo.Au × Int, H.ss[i]? ≠ some (some x)
  nw : H.now ≤ T
  cs : (∃ A, H.ss[0]? = some (some (A, 0)) ∧ Run n fr st A ∧ (∀ w, 1 ≤ w → w ≤ z → Clo.nowOf A.ds w = 0) ∧ AcR n H.l) ∨ ((∀ x : Clo.Au × Int, H.ss[0]? ≠ some (some x)) ∧ AcD n fr st H.l)
variable {T : Int} {z : Nat}
theorem Crs.low {H : Hs} (h : Crs n fr st T z H) {T' : Int} (hT : T ≤ T') : Crs n fr st T' 0 H := by
  refine ⟨h.bk, h.s1, by have := h.nw; omega, ?_⟩
  rcases h.cs with ⟨A, h1, h2, h3, h4⟩ | h1
  · exact Or.inl ⟨A, h1, h2, fun w a b => by omega, h4⟩
  · exact Or.inr h1
theorem Crs.done {H : Hs} (h : Crs n fr st T z H) (hl : H.l.length = 4) (who s c V : Int) : Crs n fr st T z (doneS who s (c, H) V) := by
  have k : Alk H.l (doneS who s (c, H) V).l := fun w hw => ⟨mark_same w (by show w < H.l.length; omega) 0 (by omega), mark_same w (by show w < H.l.length; omega) 2 (by omega)⟩
  refine ⟨h.bk, h.s1, h.nw, ?_⟩
  rcases h.cs with ⟨A, h1, h2, h3, h4⟩ | ⟨h1, h2⟩
  · exact Or.inl ⟨A, h1, h2, h3, h4.alk k⟩
  · exact Or.inr ⟨h1, h2.alk k⟩
theorem ss_set {H : Hs} (h0 : 0 < H.ss.length) (x : Option (Clo.Au × Int)) (i : Nat) : (H.ss.set 0 x)[i]? = if i = 0 then some x else H.ss[i]? := by
  by_cases e : i = 0
  · subst e
    rw [if_pos rfl, List.getElem?_set_self h0]
  · rw [if_neg e, List.getElem?_set_ne (fun h => e h.symm)]
/-- The auction that runs is another one. -/
theorem Crs.put {H : Hs} (h : Crs n fr st T z H) {A : Clo.Au} (h0 : 0 < H.ss.length) (hr : Run n fr st A) {y : Nat} (hz : ∀ w, 1 ≤ w → w ≤ y → Clo.nowOf A.ds w = 0) {l' : Ks} (ha : AcR n l') : Crs n fr st T y { H with l := l', ss := H.ss.set 0 (some (A, 0)) } := by
  refine ⟨h.bk, fun i hi x => ?_, h.nw, Or.inl ⟨A, ?_, hr, hz, ha⟩⟩
  · show (H.ss.set 0 _)[i]? ≠ _
    rw [ss_set h0, if_neg hi]
    exact h.s1 i hi x
  · show (H.ss.set 0 _)[0]? = _
    rw [ss_set h0, if_pos rfl]
/-- A client wants so many. -/
def wnO (a : Int) : Oo := ⟨7, 0, a, 0, 0, 0⟩
theorem want_crs {H : Hs} (h : Crs n fr st T z H) (gd : Gd H) (hl : H.l.length = 4) (hg : H.g = 2) {w : Nat} (hw : 1 ≤ w ∧ w < 4) (a : Int) : Crs n fr st T 0 (wantR H w (wnO a)).2 := by
  have h0 : 0 < H.ss.length := by rw [gd.ns, hg]; omega
  have hL := h.low (Int.le_refl T)
  unfold wantR wnO
  simp only
  split
  · exact hL
  · split
    · exact hL
    · rw [show (0 : Int).toNat = 0 from rfl]
      rcases h.cs with ⟨A, h1, h2, h3, h4⟩ | ⟨h1, h2⟩
      · rw [h1]
        simp only
        split
        · exact hL
        · split
          · exact hL
          · split
            · exact hL.put h0 ((h2.bid (w := w) (by omega) a).bid (by omega) _) (fun _ _ _ => by omega) h4
            · exact hL.put h0 (h2.bid (w := w) (by omega) a) (fun _ _ _ => by omega) (h4.alk (Alk.bind _ _ _ _ _))
      · split
        · next x hx => exact absurd hx (h1 x)
        · exact hL
/-- Who wants nothing is heard. -/
theorem want_zero {H : Hs} (h : Crs n fr st T z H) (gd : Gd H) (hl : H.l.length = 4) (hg : H.g = 2) (hz : z < 3) : Crs n fr st T (z + 1) (wantR H ((z + 1 : Nat) : Int) (wnO 0)).2 := by
  have h0 : 0 < H.ss.length := by rw [gd.ns, hg]; omega
  unfold wantR wnO
  simp only
  rw [if_neg (by omega), if_neg (by omega), show (0 : Int).toNat = 0 from rfl]
  rcases h.cs with ⟨A, h1, h2, h3, h4⟩ | ⟨h1, h2⟩
  · rw [h1]
    simp only
    obtain ⟨a0, aI⟩ := gd.pst 0 _ h1
    obtain ⟨d1, _⟩ := gd.ds 0 _ h1
    simp only at a0 aI d1
    have hd := aI.dm (z + 1) (by omega)
    have hb : A.bid ((z + 1 : Nat) : Int) 0 = (0, { A with ds := A.ds.set (z + 1) ⟨Clo.wasOf A.ds (z + 1), 0⟩ }) := by
      unfold Clo.Au.bid
      rw [if_neg (by omega), if_neg (by omega), Int.toNat_natCast, if_neg (by omega)]
    have en : Clo.nowOf (A.ds.set (z + 1) ⟨Clo.wasOf A.ds (z + 1), 0⟩) (z + 1) = 0 := by
      unfold Clo.nowOf
      rw [Clo.dAt_set _ (by omega), if_pos rfl]
    have ew : Clo.wasOf (A.ds.set (z + 1) ⟨Clo.wasOf A.ds (z + 1), 0⟩) (z + 1) = Clo.wasOf A.ds (z + 1) := by
      have : ∀ v, v = Clo.wasOf A.ds (z + 1) → Clo.wasOf (A.ds.set (z + 1) ⟨v, 0⟩) (z + 1) = v := fun v hv => by
        unfold Clo.wasOf
        rw [Clo.dAt_set _ (by omega), if_pos rfl]
      exact this _ rfl
    have hh : hldM (A.bid ((z + 1 : Nat) : Int) 0).2 (z + 1) ≤ hldM A (z + 1) := by
      rw [hb]
      have hlp := (hld_bd aI (show z + 1 < A.ds.length by omega)).2.2.1
      have hm : Clo.wasOf A.ds (z + 1) * A.last ≤ hldM A (z + 1) := by unfold hldM; exact Int.le_max_left _ _
      show max _ _ ≤ _
      simp only
      rw [en, ew, Int.zero_mul]
      exact Int.max_le.2 ⟨hm, hlp⟩
    have hf : 0 ≤ freeL H.l ((z + 1 : Nat) : Int) (-1) := by
      unfold freeL
      rw [if_pos rfl, Int.toNat_natCast]
      have := gd.inv.held (z + 1) (by omega) 0 1 Led.part0
      omega
    rw [if_neg (by omega), if_neg (by rw [hb]; simp), Int.toNat_natCast, if_neg (by omega)]
    refine h.put h0 (h2.bid (w := z + 1) (by omega) 0) (fun v q1 q2 => ?_) (h4.alk (Alk.bind _ _ _ _ _))
    by_cases e : v = z + 1
    · rw [e, hb]; exact en
    · rw [(bid_oth A (v := v) (w := z + 1) 0 e).1]
      exact h3 v q1 (by omega)
  · split
    · next x hx => exact absurd hx (h1 x)
    · exact ⟨h.bk, h.s1, h.nw, Or.inr ⟨h1, h2⟩⟩
/-- A market without orders is cleared. -/
theorem clrL_nil {g : Nat} {i : Int} {l : Ks} {B : Cal.Bo} (h : B.os = []) : clrL g i l B = l := by
  have hf : B.fl = [] := by unfold Cal.Bo.fl; rw [h]; rfl
  unfold clrL clrS
  rw [hf]
  rfl
theorem clr1_crs {H : Hs} (h : Crs n fr st T z H) (i : Nat) : Crs n fr st T z (clr1 H i) := by
  obtain ⟨e1, e2, e3, e4⟩ := clr1_is H i
  have e5 : (clr1 H i).now = H.now := rfl
  rw [clrL_nil (h.bk i)] at e4
  refine ⟨fun j => ?_, fun j hj x => by rw [e2]; exact h.s1 j hj x, by rw [e5]; exact h.nw, ?_⟩
  · unfold Hs.book
    rw [e3, List.getElem?_set]
    by_cases e : i = j
    · rw [if_pos e]
      split
      · show ((some (H.book i).clr).getD _).os = []
        rw [Option.getD_some, Cal.clr_os, h.bk i]; rfl
      · rfl
    · rw [if_neg e]; exact h.bk j
  · rw [e2, e4]
    exact h.cs
theorem cutR_crs {H : Hs} (h : Crs n fr st T 0 H) (h0 : 0 < H.ss.length) (w : Nat) (held : Int) : Crs n fr st T 0 (cutR H 0 w held) := by
  rcases h.cs with ⟨A, h1, h2, h3, h4⟩ | ⟨h1, h2⟩
  · unfold cutR
    rw [h1]
    simp only
    exact h.put h0 (h2.cut _ _ _) (fun _ _ _ => by omega) (h4.alk (Alk.bind _ _ _ _ _))
  · unfold cutR
    split
    · next x hx => exact absurd hx (h1 x)
    · exact h
theorem cutR_ns (H : Hs) (i w : Nat) (held : Int) : (cutR H i w held).ss.length = H.ss.length := by
  unfold cutR
  split
  · simp
  · rfl
theorem cutN_crs {H : Hs} (h : Crs n fr st T 0 H) (h0 : 0 < H.ss.length) (hd : Nat → Int) : ∀ k, Crs n fr st T 0 (cutN H 0 hd k) ∧ 0 < (cutN H 0 hd k).ss.length
  | 0 => ⟨h, h0⟩
  | k + 1 => by
    obtain ⟨a, b⟩ := cutN_crs h h0 hd k
    exact ⟨cutR_crs a b k _, by show 0 < (cutR _ _ _ _).ss.length; rw [cutR_ns]; exact b⟩
theorem sum_four (f : Nat → Int) : Clo.sumTo f 4 = f 0 + f 1 + f 2 + f 3 := by
  show ((((0 : Int) + f 0) + f 1) + f 2) + f 3 = _
  omega
/-- A round ends. -/
theorem endR_crs {H : Hs} (h : Crs n fr st T z H) (gd : Gd H) (bal : Bal H) (hl : H.l.length = 4) (hg : H.g = 2) : Crs n fr st T 0 (endR H 0) ∧ (z = 3 → ∀ x : Clo.Au × Int, (endR H 0).ss[0]? ≠ some (some x)) := by
  have h0 : 0 < H.ss.length := by rw [gd.ns, hg]; omega
  have hL := h.low (Int.le_refl T)
  rcases h.cs with ⟨A, h1, h2, h3, h4⟩ | ⟨h1, h2⟩
  · obtain ⟨a0, aI⟩ := gd.pst 0 _ h1
    obtain ⟨d1, _⟩ := gd.ds 0 _ h1
    simp only at a0 aI d1
    unfold endR
    rw [h1]
    simp only
    by_cases hn : A.next.1 = true
    · rw [if_pos hn]
      have hs : ∀ x : Clo.Au × Int, (H.ss.set 0 none)[0]? ≠ some (some x) := fun x => by
        rw [ss_set h0, if_pos rfl]
        simp
      refine ⟨⟨h.bk, fun i hi x => ?_, h.nw, Or.inr ⟨hs, ?_⟩⟩, fun _ => hs⟩
      · show (H.ss.set 0 _)[i]? ≠ _
        rw [ss_set h0, if_neg hi]
        exact h.s1 i hi x
      · have hI := aI.next
        obtain ⟨t1, t2, t3⟩ := next_three A
        have hov := next_over hn
        have hz := sale_zero hI (i := 0) (by rw [hov.2]; omega) (by rw [hov.2]; exact h2.z1) (by rw [hov.2]; exact h2.z2)
        obtain ⟨_, hw, hmono, hsup, hdl⟩ := clo_pre gd h1 hn
        have hmv := fun w => close_mv gd bal (i := 0) (by omega) h1 hn (sn := 0) rfl w
        have hfr := sale_from hI
        simp only at hw hmono hmv
        rw [hl] at hw hmono hmv
        rw [t2, t3, h2.sr, h2.sp] at hfr
        have hm4 := (hmono 4 (Nat.le_refl 4)).2
        rw [sum_four, hz, h2.su] at hm4
        show AcD n fr st (closeL H.g H.l 0 (A.next.2.2, 0) (hldM A))
        refine ⟨A.next.2.2.saleP, A.next.2.2.saleAt, (hw 0 (by omega)).2.1, fun w hw4 => (hw w hw4).1, hz, by omega, fun hp => ?_, fun w hw4 => ?_⟩
        · rcases hfr with hfr | hfr
          · exact hfr
          · rw [hfr 1, hfr 2, hfr 3] at hp
            omega
        · obtain ⟨m1, m2⟩ := hmv w
          obtain ⟨r1, r2⟩ := h4 w hw4
          rw [sum_four, hz, if_pos hw4] at m1 m2
          rw [r1] at m1
          rw [show 2 + 0 = 2 from rfl, r2] at m2
          rw [show (0 : Int) + A.next.2.2.saleAt 1 = A.next.2.2.saleAt 1 by omega] at m1 m2
          refine ⟨m1, ?_⟩
          rw [m2]
          by_cases e : w = 0
          · rw [if_pos e, if_pos e, if_pos e]; omega
          · rw [if_neg e, if_neg e, if_neg e]; omega
    · rw [if_neg hn]
      refine ⟨(cutN_crs (hL.put h0 (h2.next (by omega)) (fun _ _ _ => by omega) h4) (by simpa using h0) _ _).1, fun hz => ?_⟩
      exfalso
      apply hn
      have hwant : A.want = 0 := by
        unfold Clo.Au.want
        rw [d1, hl, sum_four, h2.z1, h3 1 (by omega) (by omega), h3 2 (by omega) (by omega), h3 3 (by omega) (by omega)]
        rfl
      have hsu := aI.sup
      unfold Clo.Au.next
      rw [if_neg (by omega), if_pos (by omega)]
  · have e : endR H 0 = H := by
      unfold endR
      split
      · next x hx => exact absurd hx (h1 x)
      · rfl
    rw [e]
    exact ⟨hL, fun _ => h1⟩
/-- A tick. -/
theorem tick_crs {H : Hs} (h : Crs n fr st T z H) (gd : Gd H) (bal : Bal H) (hl : H.l.length = 4) (hg : H.g = 2) (hT : T < 1000000) : Crs n fr st (T + 1) 0 (tickR endR H).2 ∧ (z = 3 → ∀ x : Clo.Au × Int, (tickR endR H).2.ss[0]? ≠ some (some x)) := by
  have hnw := h.nw
  unfold tickR
  rw [if_neg (by omega)]
  dsimp only
  have gd0 : Gd { H with now := H.now + 1 } := ⟨gd.inv, gd.nm, gd.ns, gd.bk, gd.pst, gd.ds⟩
  have bal0 : Bal { H with now := H.now + 1 } := ⟨bal.b, bal.od⟩
  have c0 : Crs n fr st (T + 1) z { H with now := H.now + 1 } := ⟨h.bk, h.s1, by show H.now + 1 ≤ T + 1; omega, h.cs⟩
  obtain ⟨H0, hH0⟩ : ∃ H0 : Hs, { H with now := H.now + 1 } = H0 := ⟨_, rfl⟩
  have hl0 : H0.l.length = 4 := by rw [← hH0]; exact hl
  have hg0 : H0.g = 2 := by rw [← hH0]; exact hg
  rw [hH0] at gd0 bal0 c0 ⊢
  rw [hg, show tickN endR H0 2 = tick1 endR (tick1 endR H0 0) 1 from rfl]
  have c1 := clr1_crs c0 0
  have g1 := clr1_gd gd0 0
  have b1 := clr1_bal gd0 bal0 (i := 0) (by omega)
  have l1 : (clr1 H0 0).l.length = 4 := (clr1_hps gd0.inv.g4 0).l.len.trans hl0
  have k1 : (clr1 H0 0).g = 2 := hg0
  have key : Crs n fr st (T + 1) 0 (tick1 endR H0 0) ∧ (z = 3 → ∀ x : Clo.Au × Int, (tick1 endR H0 0).ss[0]? ≠ some (some x)) := by
    unfold tick1
    split
    · exact endR_crs c1 g1 b1 l1 k1
    · next hx =>
      refine ⟨c1.low (Int.le_refl _), fun _ x => ?_⟩
      rw [(clr1_is H0 0).2.1]
      exact hx x
  rw [tick1_no (H := tick1 endR H0 0) (fun x => key.1.s1 1 (by omega) x)]
  refine ⟨clr1_crs key.1 1, fun hz x => ?_⟩
  rw [(clr1_is (tick1 endR H0 0) 1).2.1]
  exact key.2 hz x
end Go.Proofs.YtpekfpfhonechaaGreat

namespace Go.Proofs.YtpekfpfhonechaaGreat
open Go.RowKit
set_option linter.unusedSimpArgs false
set_option linter.unusedVariables false

/-- An ask that can be said is a deed, then a mark. -/
theorem room_deed {H : Hs} {s : Nat → Int} (l4 : H.l.length = 4) (st : ∀ i, i < 4 → (Led.kAt H.l i).n 10 = s i) (s0 : ∀ i, i < 4 → 0 ≤ s i) {w : Nat} (hw : w < 4) (o : Oo) (hk : opOk o = true) (hp : o.pr < 18446744073709551616) (hs : s w < 1099511627776) :
    ∃ V, roomR H s w o = (layR (deedR H w o).1 V, doneS w (s w + 1) (deedR H w o) V, up4 s w (s w + 1)) := by
  have ho : ofOpR ⟨(opB o).toArray⟩ = .ok o := of_op _ hk hp
  have hr : refR H.l w (s w + 1) = 0 := by
    unfold refR
    have a := s0 w hw
    rw [if_neg (by omega), if_neg (by omega), Int.toNat_natCast, st w hw, if_neg (by omega)]
  have hq : reqR H w ⟨(opB o).toArray⟩ = deedR H w o := by
    unfold reqR
    rw [ho]
  refine ⟨valR H w ⟨(opB o).toArray⟩, ?_⟩
  unfold roomR
  rw [if_pos hk, rest_small hw]
  unfold doR
  rw [if_pos hr, hq]
def paO : Oo := ⟨2, 0, 1048576, 0, 0, 0⟩
def stO (n : Int) : Oo := ⟨4, 0, n, 0, 0, 0⟩
def ofO (n st : Int) (pr : Nat) : Oo := ⟨6, 0, n, st, 0, pr⟩
theorem deedR_2 (H : Hs) (who : Int) : deedR H who paO = accH payR H who paO := by
  unfold deedR
  rw [if_neg (by decide), if_pos (show paO.k = 2 from rfl)]
theorem deedR_4 (H : Hs) (who n : Int) : deedR H who (stO n) = accH storeR H who (stO n) := rfl
theorem deedR_6 (H : Hs) (who n st : Int) (pr : Nat) : deedR H who (ofO n st pr) = offerR H who (ofO n st pr) := rfl
theorem deedR_7 (H : Hs) (who n : Int) : deedR H who (wnO n) = wantR H who (wnO n) := rfl
/-- Before the auction: the first k have been paid; m pieces lie with the first. -/
structure Pd (k : Nat) (m : Int) (H : Hs) : Prop where
  bk : ∀ i, (H.book i).os = []
  ss : ∀ (i : Nat) (x : Clo.Au × Int), H.ss[i]? ≠ some (some x)
  nw : H.now ≤ 0
  ac : ∀ w, w < 4 → (Led.kAt H.l w).n 0 = (if w < k then 1048576 else 0) ∧ (Led.kAt H.l w).n 2 = if w = 0 then m else 0
theorem Pd.done {k : Nat} {m : Int} {H : Hs} (h : Pd k m H) (hl : H.l.length = 4) (who s c V : Int) : Pd k m (doneS who s (c, H) V) :=
  ⟨h.bk, h.ss, h.nw, fun w hw => ⟨(mark_same w (by show w < H.l.length; omega) 0 (by omega)).trans (h.ac w hw).1, (mark_same w (by show w < H.l.length; omega) 2 (by omega)).trans (h.ac w hw).2⟩⟩
theorem tot4 {l : Ks} (hl : l.length = 4) (f : Nat) : Led.tot l f = (Led.kAt l 0).n f + (Led.kAt l 1).n f + (Led.kAt l 2).n f + (Led.kAt l 3).n f := by
  match l, hl with
  | [a, b, c, d], _ =>
    show (([a, b, c, d] : Ks).map (fun k => k.n f)).sum = a.n f + b.n f + c.n f + d.n f
    simp only [List.map_cons, List.map_nil, List.sum_cons, List.sum_nil]
    omega
theorem pay_pd {k : Nat} {H : Hs} (h : Pd k 0 H) (hk : k < 4) (hl : H.l.length = 4) : Pd (k + 1) 0 (deedR H k paO).2 := by
  have a0 := (h.ac 0 (by omega)).1
  have a1 := (h.ac 1 (by omega)).1
  have a2 := (h.ac 2 (by omega)).1
  have a3 := (h.ac 3 (by omega)).1
  have ht := tot4 hl 0
  have hb : Led.tot H.l 0 ≤ 4194304 := by
    rw [ht, a0, a1, a2, a3]
    split <;> split <;> split <;> split <;> omega
  have e : (payR H.g H.l k paO).2 = Led.upd H.l k 0 ((Led.kAt H.l k).n 0 + 1048576) := by
    unfold payR
    rw [gate_go (refE_1 (by omega) (show (1 : Int) ≤ paO.a by decide) (show paO.a ≤ 1099511627776 by decide)), Int.toNat_natCast]
    show (Led.inR H.l k 0 1048576).2 = _
    unfold Led.inR
    rw [if_neg (show ¬ 1099511627776 < Led.tot H.l 0 + 1048576 by omega)]
  rw [deedR_2]
  refine ⟨h.bk, h.ss, h.nw, fun w hw => ?_⟩
  show (Led.kAt (payR H.g H.l k paO).2 w).n 0 = _ ∧ (Led.kAt (payR H.g H.l k paO).2 w).n 2 = _
  have u := fun x => Led.upd_at (l := H.l) (i := k) 0 ((Led.kAt H.l k).n 0 + 1048576) (by omega) w x
  have u2 := (u 2).trans (if_neg (fun h => absurd h.2 (by decide)))
  rw [e, u2, u 0]
  refine ⟨?_, (h.ac w hw).2⟩
  have hw1 := (h.ac w hw).1
  have hk1 := (h.ac k hk).1
  rw [if_neg (Nat.lt_irrefl k)] at hk1
  by_cases e1 : w = k
  · rw [if_pos (And.intro e1 rfl), if_pos (show w < k + 1 by omega), hk1]; rfl
  · rw [if_neg (fun h => e1 h.1), hw1]
    by_cases e2 : w < k
    · rw [if_pos e2, if_pos (show w < k + 1 by omega)]
    · rw [if_neg e2, if_neg (show ¬ w < k + 1 by omega)]
theorem store_pd {H : Hs} {n : Int} (h : Pd 4 0 H) (hn : 1 ≤ n ∧ n ≤ 50) (hl : H.l.length = 4) (hg : H.g = 2) : Pd 4 n (deedR H (0 : Nat) (stO n)).2 := by
  have a0 := (h.ac 0 (by omega)).2
  have a1 := (h.ac 1 (by omega)).2
  have a2 := (h.ac 2 (by omega)).2
  have a3 := (h.ac 3 (by omega)).2
  have ht := tot4 hl 2
  rw [a0, a1, a2, a3] at ht
  have hb : Led.tot H.l 2 = 0 := by rw [ht]; rfl
  have e : (storeR H.g H.l (0 : Nat) (stO n)).2 = Led.upd H.l 0 2 ((Led.kAt H.l 0).n 2 + n) := by
    unfold storeR
    have hr : Led.refG H.g H.l.length (stO n).g (stO n).a [((0 : Nat) : Int)] = 0 := refG_of (i := 0) (refE_1 (by omega) hn.1 (show n ≤ 1099511627776 by omega)) (by omega)
    rw [gate_go hr]
    show (Led.inR H.l 0 2 n).2 = _
    unfold Led.inR
    rw [if_neg (show ¬ 1099511627776 < Led.tot H.l 2 + n by omega)]
  rw [deedR_4]
  refine ⟨h.bk, h.ss, h.nw, fun w hw => ?_⟩
  show (Led.kAt (storeR H.g H.l (0 : Nat) (stO n)).2 w).n 0 = _ ∧ (Led.kAt (storeR H.g H.l (0 : Nat) (stO n)).2 w).n 2 = _
  have u := fun x => Led.upd_at (l := H.l) (i := 0) 2 ((Led.kAt H.l 0).n 2 + n) (by omega) w x
  have u0 := (u 0).trans (if_neg (fun h => absurd h.2 (by decide)))
  rw [e, u0, u 2]
  refine ⟨(h.ac w hw).1, ?_⟩
  have hw1 := (h.ac w hw).2
  by_cases e1 : w = 0
  · rw [if_pos (And.intro e1 rfl), if_pos e1, a0]
    show (0 : Int) + n = n
    omega
  · rw [if_neg (fun h => e1 h.1), if_neg e1, hw1, if_neg e1]
theorem offer_crs {H : Hs} {n fr st : Int} {pr : Nat} (h : Pd 4 n H) (gd : Gd H) (bal : Bal H) (hl : H.l.length = 4) (hg : H.g = 2) (hn : 1 ≤ n ∧ n ≤ 50) (hf : 0 ≤ fr ∧ fr < 40) (hst : 1 ≤ st ∧ st ≤ 20) (hp : Quo.ticksR pr 6 = (fr, 0)) :
    (deedR H (0 : Nat) (ofO n st pr)).1 = 0 ∧ Crs n fr st 0 0 (deedR H (0 : Nat) (ofO n st pr)).2 := by
  have h0 : 0 < H.ss.length := by rw [gd.ns, hg]; omega
  have hz := (bal_empty bal (fun i _ => h.bk i) (fun i _ => h.ss i) (w := 0) (by omega)).2 0 (by omega)
  have a0 := (h.ac 0 (by omega)).2
  rw [deedR_6]
  unfold offerR ofO
  simp only
  rw [hp, if_neg (by omega), if_neg (by simp), if_neg (by simp only; omega), show (0 : Int).toNat = 0 from rfl]
  have hfree : freeL H.l ((0 : Nat) : Int) 0 = n := by
    unfold freeL
    rw [if_neg (by omega)]
    show (Led.kAt H.l 0).n 2 - (Led.kAt H.l 0).n 6 = n
    rw [a0, hz, if_pos rfl]
    omega
  split
  · next x hx => exact absurd hx (h.ss 0 x)
  · rw [if_neg (by rw [hfree]; omega)]
    refine ⟨rfl, h.bk, fun i hi x => ?_, h.nw, Or.inl ⟨Clo.Au.new n fr st H.l.length, ?_, ⟨rfl, rfl, rfl, ?_, ?_⟩, fun w a b => by omega, ?_⟩⟩
    · show (H.ss.set 0 _)[i]? ≠ _
      rw [ss_set h0, if_neg hi]
      exact h.ss i x
    · show (H.ss.set 0 _)[0]? = _
      rw [ss_set h0, if_pos rfl]
      rfl
    · show (Clo.dAt (List.replicate H.l.length ⟨0, 0⟩) 0).now = 0
      rw [Clo.dAt_rep]
    · show (Clo.dAt (List.replicate H.l.length ⟨0, 0⟩) 0).was = 0
      rw [Clo.dAt_rep]
    · show AcR n (bindL H.g H.l ((0 : Nat) : Int) 0 n)
      refine AcR.alk (l := H.l) (fun w hw => ⟨?_, (h.ac w hw).2⟩) (Alk.bind _ _ _ _ _)
      rw [(h.ac w hw).1, if_pos hw]
/-- Before the auction; in its course. -/
def PayS (w wr : World) (rb k : Nat) (m B : Int) : Prop := ∃ X H s, Rom wr w.heap.size rb X H s ∧ (∀ i, s i ≤ B) ∧ Pd k m H ∧ Below w.heap.size w wr
def SalS (n fr st : Int) (w wr : World) (rb : Nat) (T B : Int) (z : Nat) : Prop := ∃ X H s, Rom wr w.heap.size rb X H s ∧ (∀ i, s i ≤ B) ∧ Crs n fr st T z H ∧ Below w.heap.size w wr
variable {n fr st : Int} {w wr : World} {rb : Nat} {T B : Int} {z : Nat}
/-- What one ask leaves, from what its deed leaves. -/
theorem ask_step {Q : Hs → Prop} {X : Ad} {H : Hs} {s : Nat → Int} (m1 : Rom wr w.heap.size rb X H s) (u1 : ∀ i, s i ≤ B) (b1 : Below w.heap.size w wr) (hB : B < 1000000) {v : Nat} (hv : v < 4) (o : Oo) (hk : opOk o = true) (hp : o.pr < 18446744073709551616)
    (hd : ∀ V, Q (doneS v (s v + 1) (deedR H v o) V)) (w0 : World) (hw0 : Below wr.heap.size wr w0) :
    Calls Tryz.prog 9 #[.pointer (some ⟨rb, 0, none⟩), .agg #[.int .i64 v, .int .i64 o.k, .int .i64 o.g, .int .i64 o.a, .int .i64 o.d, .int .i64 o.i, .float .f64 o.pr]] w0 fun e w' => (∃ V, e = .returned (.string (layR (deedR H v o).1 V))) ∧ ∃ X H s, Rom w' w.heap.size rb X H s ∧ (∀ i, s i ≤ B + 1) ∧ Q H ∧ Below w.heap.size w w' := by
  have hs : s v < 1099511627776 := by have := u1 v; omega
  have m0 := m1.below hw0
  have b0 : Below w.heap.size w w0 := b1.trans (hw0.mono b1.size)
  obtain ⟨V, hV⟩ := room_deed m1.l4 m1.st m1.s0 hv o hk hp hs
  have hup := fun i => roomR_up H s v o i
  refine (do_room w0 m0 b0.size v o hp (by rw [rest_small hv]; exact hs)).mono ?_
  rintro e w' ⟨rfl, X', m', t', p'⟩
  refine ⟨⟨V, by rw [hV]⟩, X', _, _, m', fun i => by have h1 := hup i; have h2 := u1 i; omega, ?_, t'.old m0 b0 b0.size⟩
  rw [hV]
  exact hd V
theorem pay_step {k : Nat} (hk : k < 4) (h : PayS w wr rb k 0 k) :
    Calls Tryz.prog 9 #[.pointer (some ⟨rb, 0, none⟩), .agg #[.int .i64 k, .int .i64 2, .int .i64 0, .int .i64 1048576, .int .i64 0, .int .i64 0, .float .f64 0]] wr fun e w' => (∃ t, e = .returned (.string t)) ∧ PayS w w' rb (k + 1) 0 ((k + 1 : Nat) : Int) := by
  obtain ⟨X, H, s, m1, u1, f1, b1⟩ := h
  refine (ask_step (Q := Pd (k + 1) 0) m1 u1 b1 (by omega) hk paO (by kernel_rfl) (by decide) (fun V => ?_) wr (Below.refl _ _)).mono ?_
  · have hl : (deedR H k paO).2.l.length = 4 := (deedR_dps m1.hm.ha.lg.inv.g4 k paO).l.len.trans m1.l4
    exact (pay_pd f1 hk m1.l4).done hl _ _ _ _
  · rintro e w' ⟨⟨V, rfl⟩, X', H', s', m', u', f', b'⟩
    exact ⟨⟨_, rfl⟩, X', H', s', m', fun i => by have := u' i; omega, f', b'⟩
theorem num_ok {k g a d i : Int} {p : Nat} (h : (0 ≤ k ∧ k ≤ 1000) ∧ (0 ≤ g ∧ g ≤ 1000) ∧ (0 ≤ a ∧ a ≤ 1000) ∧ (0 ≤ d ∧ d ≤ 1000) ∧ (0 ≤ i ∧ i ≤ 1000)) : opOk ⟨k, g, a, d, i, p⟩ = true := by
  unfold opOk Oo.ints numOk
  simp only [List.all_cons, List.all_nil, Bool.and_true, Bool.and_eq_true, decide_eq_true_eq]
  omega
theorem store_step (hn : 1 ≤ n ∧ n ≤ 50) (h : PayS w wr rb 4 0 4) :
    Calls Tryz.prog 9 #[.pointer (some ⟨rb, 0, none⟩), .agg #[.int .i64 0, .int .i64 4, .int .i64 0, .int .i64 n, .int .i64 0, .int .i64 0, .float .f64 0]] wr fun e w' => (∃ t, e = .returned (.string t)) ∧ PayS w w' rb 4 n 5 := by
  obtain ⟨X, H, s, m1, u1, f1, b1⟩ := h
  refine (ask_step (Q := Pd 4 n) m1 u1 b1 (by omega) (v := 0) (by omega) (stO n) (num_ok (by omega)) (by show (0 : Nat) < _; decide) (fun V => ?_) wr (Below.refl _ _)).mono ?_
  · have hl : (deedR H (0 : Nat) (stO n)).2.l.length = 4 := (deedR_dps m1.hm.ha.lg.inv.g4 _ _).l.len.trans m1.l4
    exact (store_pd f1 hn m1.l4 m1.g2).done hl _ _ _ _
  · rintro e w' ⟨⟨V, rfl⟩, X', H', s', m', u', f', b'⟩
    exact ⟨⟨_, rfl⟩, X', H', s', m', fun i => by have := u' i; omega, f', b'⟩
theorem offer_step {pr : Nat} (hn : 1 ≤ n ∧ n ≤ 50) (hf : 0 ≤ fr ∧ fr < 40) (hst : 1 ≤ st ∧ st ≤ 20) (hp : Quo.ticksR pr 6 = (fr, 0)) (hpr : pr < 18446744073709551616) (h : PayS w wr rb 4 n 5) :
    Calls Tryz.prog 9 #[.pointer (some ⟨rb, 0, none⟩), .agg #[.int .i64 0, .int .i64 6, .int .i64 0, .int .i64 n, .int .i64 st, .int .i64 0, .float .f64 pr]] wr fun e w' => (∃ t, e = .returned (.string t) ∧ fineR t = true) ∧ SalS n fr st w w' rb 0 6 0 := by
  obtain ⟨X, H, s, m1, u1, f1, b1⟩ := h
  obtain ⟨e0, hc⟩ := offer_crs f1 (m1.hm.gd m1.pst) m1.bal m1.l4 m1.g2 hn hf hst hp
  refine (ask_step (Q := Crs n fr st 0 0) m1 u1 b1 (by omega) (v := 0) (by omega) (ofO n st pr) (num_ok (by omega)) hpr (fun V => ?_) wr (Below.refl _ _)).mono ?_
  · have hl : (deedR H (0 : Nat) (ofO n st pr)).2.l.length = 4 := (deedR_dps m1.hm.ha.lg.inv.g4 _ _).l.len.trans m1.l4
    exact hc.done hl _ _ _ _
  · rintro e w' ⟨⟨V, rfl⟩, X', H', s', m', u', f', b'⟩
    exact ⟨⟨_, rfl, by rw [e0]; exact fineR_lay V⟩, X', H', s', m', fun i => by have := u' i; omega, f', b'⟩
theorem want_step {v : Nat} (hv : 1 ≤ v ∧ v < 4) {a : Int} (ha : 0 ≤ a ∧ a ≤ 60) (hB : B < 1000) (h : SalS n fr st w wr rb T B z) (w0 : World) (hw0 : Below wr.heap.size wr w0) :
    Calls Tryz.prog 9 #[.pointer (some ⟨rb, 0, none⟩), .agg #[.int .i64 v, .int .i64 7, .int .i64 0, .int .i64 a, .int .i64 0, .int .i64 0, .float .f64 0]] w0 fun e w' => (∃ t, e = .returned (.string t)) ∧ SalS n fr st w w' rb T (B + 1) 0 := by
  obtain ⟨X, H, s, m1, u1, f1, b1⟩ := h
  have hc := want_crs f1 (m1.hm.gd m1.pst) m1.l4 m1.g2 hv a
  refine (ask_step (Q := Crs n fr st T 0) m1 u1 b1 (by omega) hv.2 (wnO a) (num_ok (by omega)) (by show (0 : Nat) < _; decide) (fun V => ?_) w0 hw0).mono ?_
  · have hl : (deedR H v (wnO a)).2.l.length = 4 := (deedR_dps m1.hm.ha.lg.inv.g4 _ _).l.len.trans m1.l4
    rw [deedR_7] at hl ⊢
    exact hc.done hl _ _ _ _
  · rintro e w' ⟨⟨V, rfl⟩, X', H', s', m', u', f', b'⟩
    exact ⟨⟨_, rfl⟩, X', H', s', m', u', f', b'⟩
theorem zero_step (hz : z < 3) (hB : B < 1000) (h : SalS n fr st w wr rb T B z) :
    Calls Tryz.prog 9 #[.pointer (some ⟨rb, 0, none⟩), .agg #[.int .i64 ((z + 1 : Nat) : Int), .int .i64 7, .int .i64 0, .int .i64 0, .int .i64 0, .int .i64 0, .float .f64 0]] wr fun e w' => (∃ t, e = .returned (.string t)) ∧ SalS n fr st w w' rb T (B + 1) (z + 1) := by
  obtain ⟨X, H, s, m1, u1, f1, b1⟩ := h
  have hc := want_zero f1 (m1.hm.gd m1.pst) m1.l4 m1.g2 hz
  refine (ask_step (Q := Crs n fr st T (z + 1)) m1 u1 b1 (by omega) (v := z + 1) (by omega) (wnO 0) (by kernel_rfl) (by decide) (fun V => ?_) wr (Below.refl _ _)).mono ?_
  · have hl : (deedR H ((z + 1 : Nat) : Int) (wnO 0)).2.l.length = 4 := (deedR_dps m1.hm.ha.lg.inv.g4 _ _).l.len.trans m1.l4
    rw [deedR_7] at hl ⊢
    exact hc.done hl _ _ _ _
  · rintro e w' ⟨⟨V, rfl⟩, X', H', s', m', u', f', b'⟩
    exact ⟨⟨_, rfl⟩, X', H', s', m', u', f', b'⟩
/-- Over: nothing is on sale. -/
def OvS (n fr st : Int) (w wr : World) (rb : Nat) : Prop := ∃ X H s, Rom wr w.heap.size rb X H s ∧ (∃ T, Crs n fr st T 0 H) ∧ (∀ x : Clo.Au × Int, H.ss[0]? ≠ some (some x)) ∧ Below w.heap.size w wr
theorem tick_step (hT : T < 1000) (hB : B < 1000) (h : SalS n fr st w wr rb T B z) :
    Calls Tryz.prog 9 #[.pointer (some ⟨rb, 0, none⟩), .agg #[.int .i64 0, .int .i64 1, .int .i64 0, .int .i64 0, .int .i64 0, .int .i64 0, .float .f64 0]] wr fun e w' => (∃ t, e = .returned (.string t)) ∧ SalS n fr st w w' rb (T + 1) (B + 1) 0 ∧ (z = 3 → OvS n fr st w w' rb) := by
  obtain ⟨X, H, s, m1, u1, f1, b1⟩ := h
  obtain ⟨hc, ho⟩ := tick_crs f1 (m1.hm.gd m1.pst) m1.bal m1.l4 m1.g2 (by omega)
  refine (ask_step (Q := fun H' => Crs n fr st (T + 1) 0 H' ∧ (z = 3 → ∀ x : Clo.Au × Int, H'.ss[0]? ≠ some (some x))) m1 u1 b1 (by omega) (v := 0) (by omega) tkO (by kernel_rfl) (by decide) (fun V => ?_) wr (Below.refl _ _)).mono ?_
  · have hl : (deedR H ((0 : Nat) : Int) tkO).2.l.length = 4 := (deedR_dps m1.hm.ha.lg.inv.g4 _ _).l.len.trans m1.l4
    rw [deedR_1] at hl ⊢
    exact ⟨hc.done hl _ _ _ _, ho⟩
  · rintro e w' ⟨⟨V, rfl⟩, X', H', s', m', u', ⟨f', g'⟩, b'⟩
    exact ⟨⟨_, rfl⟩, ⟨X', H', s', m', u', f', b'⟩, fun hz => ⟨X', H', s', m', ⟨_, f'⟩, g' hz, b'⟩⟩
/-- What the accounts hold when all is over. -/
theorem over_accs (h : OvS n fr st w wr rb) : ∃ X H s, Rom wr w.heap.size rb X H s ∧ Below w.heap.size w wr ∧ (∀ x : Clo.Au × Int, H.ss[0]? ≠ some (some x)) ∧ ∃ (p : Int) (f : Nat → Int), (∀ w, w < 4 → 0 ≤ f w) ∧ Clo.sumTo f 1 = 0 ∧ Clo.sumTo f 4 ≤ n ∧ (0 < Clo.sumTo f 4 → 0 ≤ p ∧ fr ≤ p ∧ (p - fr).tmod st = 0 ∧ p ≤ 1048576) ∧
    (∀ w, 1 ≤ w → w < 4 → (Led.kAt H.l w).n 0 = 1048576 - f w * p ∧ (Led.kAt H.l w).n 1 = 0 ∧ (Led.kAt H.l w).n 2 = f w) ∧ (Led.kAt H.l 0).n 0 = 1048576 + Clo.sumTo f 4 * p ∧ (Led.kAt H.l 0).n 2 = n - Clo.sumTo f 4 ∧ (Led.kAt H.l 0).n 6 = 0 := by
  obtain ⟨X, H, s, m1, ⟨T, f1⟩, ho, b1⟩ := h
  rcases f1.cs with ⟨A, h1, _⟩ | ⟨_, p, f, h1, h2, h3, h4, h5, h6⟩
  · exact absurd h1 (ho _)
  have hns : ∀ i, i < H.g → ∀ x : Clo.Au × Int, H.ss[i]? ≠ some (some x) := fun i _ x => by
    by_cases e : i = 0
    · rw [e]; exact ho x
    · exact f1.s1 i e x
  have hz := fun v (hv : v < 4) => bal_empty m1.bal (fun i _ => f1.bk i) hns (w := v) (by rw [m1.l4]; exact hv)
  have hS : Clo.sumTo f 4 = f 1 + f 2 + f 3 := by rw [sum_four, h3]; omega
  rw [← hS] at h4 h5
  refine ⟨X, H, s, m1, b1, ho, p, f, h2, ?_, h4, fun hp => ?_, fun v q1 q2 => ?_, ?_, ?_, (hz 0 (by omega)).2 0 (by rw [m1.g2]; omega)⟩
  · show (0 : Int) + f 0 = 0
    rw [h3]; rfl
  · obtain ⟨g1, g2⟩ := h5 hp
    refine ⟨h1, g1, g2, ?_⟩
    have key : ∀ v, 1 ≤ v → v < 4 → 0 < f v → p ≤ 1048576 := fun v q1 q2 q3 => by
      have e := (h6 v q2).1
      rw [if_neg (by omega)] at e
      have hI := m1.hm.ha.lg.inv.held v (by rw [m1.l4]; exact q2) 0 1 Led.part0
      have := Int.mul_le_mul_of_nonneg_right (show 1 ≤ f v by omega) h1
      omega
    have n1 := h2 1 (by omega)
    have n2 := h2 2 (by omega)
    have n3 := h2 3 (by omega)
    rcases (show 0 < f 1 ∨ 0 < f 2 ∨ 0 < f 3 by omega) with q | q | q
    · exact key 1 (by omega) (by omega) q
    · exact key 2 (by omega) (by omega) q
    · exact key 3 (by omega) (by omega) q
  · obtain ⟨e1, e2⟩ := h6 v q2
    rw [if_neg (by omega)] at e1 e2
    exact ⟨by omega, (hz v q2).1, by omega⟩
  · obtain ⟨e1, _⟩ := h6 0 (by omega)
    rw [if_pos rfl, h3, Int.zero_mul] at e1
    rw [hS]
    omega
  · obtain ⟨_, e2⟩ := h6 0 (by omega)
    rw [if_pos rfl, h3] at e2
    omega
theorem SalS.weak {T' B' : Int} (h : SalS n fr st w wr rb T B z) (hT : T ≤ T') (hB : B ≤ B') : SalS n fr st w wr rb T' B' 0 := by
  obtain ⟨X, H, s, m1, u1, f1, b1⟩ := h
  exact ⟨X, H, s, m1, fun i => by have := u1 i; omega, f1.low hT, b1⟩
theorem SalS.bl (h : SalS n fr st w wr rb T B z) : Below w.heap.size w wr := h.choose_spec.choose_spec.choose_spec.2.2.2
/-- A price of so many ticks: the float, and its ticks. -/
def qPr (k : Nat) : Nat := (FloatKind.f64.format.div (floatOfInt FloatKind.f64 (k : Int)) 4634204016564240384).getD 0
theorem q_pr : ∀ k : Nat, k < 40 → FloatKind.f64.format.div (floatOfInt FloatKind.f64 (k : Int)) 4634204016564240384 = some (qPr k) ∧ qPr k < 18446744073709551616 ∧ Quo.ticksR (qPr k) 6 = ((k : Int), 0) := by decide +kernel
theorem run_quo {a b r : Nat} (h : FloatKind.f64.format.div a b = some r) (w : World) : (binOp .quo 37 (.float .f64 a) (.float .f64 b)).run Tryz.prog w = .ok (.float .f64 r) w := by
  have e : (binOp .quo 37 (.float .f64 a) (.float .f64 b)).run Tryz.prog w = ((do
    let x ← (pure (FloatKind.f64.format.div a b) : Sem (Option Nat))
    match x with
    | some r => pure (Value.float .f64 r)
    | none => pure (Value.float .f64 (← choose (.nanBits .f64 a b)))) : Sem Value).run Tryz.prog w := by kernel_rfl
  rw [e, h]
  rfl
theorem new_pd : Pd 0 0 (Hs.new 4 2) := by
  refine ⟨fun i => ?_, fun i x hx => ?_, Int.le_refl _, fun w hw => ?_⟩
  · unfold Hs.book Hs.new
    rw [List.getElem?_replicate]
    split <;> rfl
  · simp only [Hs.new, List.getElem?_replicate] at hx
    split at hx
    · cases hx
    · cases hx
  · rcases (show w = 0 ∨ w = 1 ∨ w = 2 ∨ w = 3 by omega) with rfl | rfl | rfl | rfl <;> exact ⟨rfl, rfl⟩
end Go.Proofs.YtpekfpfhonechaaGreat
