/- The house: a tick keeps the balance. -/
import Derived.Test.YtpekfpfhonechaaGreatHw50
import Derived.Test.YtpekfpfhonechaaGreatHw37
import Derived.Test.YtpekfpfhonechaaGreatHw32
import Derived.Deep.RegionHeld3
import Derived.Deep.RegionHeld
namespace Go.Proofs.YtpekfpfhonechaaGreat
set_option linter.unusedSimpArgs false
set_option linter.unusedVariables false

/-- A market is cleared. -/
theorem clr1_is (H : Hs) (i : Nat) : (clr1 H i).g = H.g ∧ (clr1 H i).ss = H.ss ∧ (clr1 H i).ms = H.ms.set i (H.book i).clr ∧ (clr1 H i).l = clrL H.g i H.l (H.book i) := by
  refine ⟨?_, ?_, ?_, ?_⟩
  · unfold clr1; rfl
  · unfold clr1; rfl
  · unfold clr1; rfl
  · unfold clr1; rfl
theorem clr1_gd {H : Hs} (gd : Gd H) (i : Nat) : Gd (clr1 H i) := by
  have hl : (clr1 H i).l.length = H.l.length := (clr1_hps gd.inv.g4 i).l.len
  have hp := clr1_pst gd.pst i
  obtain ⟨e1, e2, e3, e4⟩ := clr1_is H i
  have hI : Led.Inv H.g (clr1 H i).l := by rw [e4]; exact Ivc gd.inv _ _
  generalize clr1 H i = K at *
  refine ⟨by rw [e1]; exact hI, by rw [e3, e1, List.length_set]; exact gd.nm, by rw [e2, e1]; exact gd.ns, fun j => ?_, hp, fun j x hx => ?_⟩
  · unfold Hs.book
    rw [e3, List.getElem?_set]
    by_cases e : i = j
    · rw [if_pos e]
      split
      · exact (gd.bk i).clr
      · exact Cal.binv_new
    · rw [if_neg e]; exact gd.bk j
  · rw [e2] at hx
    have := gd.ds j x hx
    rw [hl]; exact this
theorem clr1_bal {H : Hs} (gd : Gd H) (bal : Bal H) {i : Nat} (hi : i < H.g) : Bal (clr1 H i) := by
  have hll : (clr1 H i).l.length = H.l.length := (clr1_hps gd.inv.g4 i).l.len
  have hown : ∀ o ∈ (H.book i).os, ∃ w : Nat, o.own = w ∧ w < H.l.length := fun o ho => by
    obtain ⟨w, x, h1, h2, _⟩ := bal.od i o ho
    exact ⟨w, h1, h2⟩
  have hB := clrL_bl gd.inv.g4 hi (gd.bk i) bal.b hown
    (fun w hw => by
      have h1 := (bal.bd gd hw).1
      have h2 := sum_one (f := hI H w) (k := H.g) (fun j _ => hI_nn gd hw j) i hi
      have h3 := hSa_nn gd hw i
      have q1 : hcB H w = Clo.sumTo (hI H w) H.g := rfl
      have q2 : hI H w i = wsum (hT w) (H.book i).os + hSa H w i := rfl
      omega)
    (fun w hw => by
      have h1 := (bal.bd gd hw).2 i hi
      have h3 := lSa_nn gd w i
      have q3 : lkB H w i = wsum (lT w) (H.book i).os + lSa H w i := rfl
      omega)
  obtain ⟨e1, e2, e3, e4⟩ := clr1_is H i
  rw [← e4] at hB
  generalize clr1 H i = K at *
  have hbk : ∀ j, K.book j = if j = i then (H.book i).clr else H.book j := fun j => by
    unfold Hs.book
    rw [e3, List.getElem?_set]
    by_cases e : i = j
    · subst e
      rw [if_pos rfl, if_pos (by rw [gd.nm]; exact hi), if_pos rfl]; rfl
    · rw [if_neg e, if_neg (fun h => e h.symm)]
  have hSe : ∀ w j, hSa K w j = hSa H w j := fun w j => by unfold hSa; rw [e2]
  have lSe : ∀ w j, lSa K w j = lSa H w j := fun w j => by unfold lSa; rw [e2]
  refine ⟨?_, fun j o ho => ?_⟩
  · rw [e1]
    refine hB.congr (fun w hw => ?_) (fun w hw j hj => ?_)
    · have := sumTo_set (f := hI H w) (f' := hI K w) (i := i) (fun j hj => by
        unfold hI; rw [hbk j, if_neg hj, hSe]) H.g
      have q0 : hcB K w = Clo.sumTo (hI K w) K.g := rfl
      have q1 : hcB H w = Clo.sumTo (hI H w) H.g := rfl
      rw [q0, e1, this, if_pos hi]
      have f1 : hI K w i = wsum (hT w) (H.book i).clr.os + hSa H w i := by unfold hI; rw [hbk i, if_pos rfl, hSe]
      have f0 : hI H w i = wsum (hT w) (H.book i).os + hSa H w i := rfl
      rw [f1, f0, q1]
      omega
    · have f1 : lkB K w j = wsum (lT w) (K.book j).os + lSa K w j := rfl
      have f0 : lkB H w j = wsum (lT w) (H.book j).os + lSa H w j := rfl
      rw [f1, hbk j, lSe]
      by_cases e : j = i
      · rw [if_pos e, if_pos e, f0, e]; omega
      · rw [if_neg e, if_neg e]; exact f0
  · rw [hbk j] at ho
    rw [hll]
    split at ho
    · rw [Cal.clr_os] at ho
      obtain ⟨q, hq, e⟩ := List.mem_map.1 (List.mem_filter.1 ho).1
      obtain ⟨v, x, h1, h2, h3, h4⟩ := bal.od i q hq
      subst e
      exact ⟨v, x, h1, h2, h3, h4⟩
    · exact bal.od j o ho
/-- An auction that is another one, with accounts of its bidders and its seller. -/
theorem Bal.saleG {H : Hs} (gd : Gd H) (bal : Bal H) {i : Nat} (hi : i < H.g) (x : Option (Clo.Au × Int)) {l' : Ks} (hl : l'.length = H.l.length)
    (hB : Bl H.g l' (fun w => hcB H w - hSa H w i + hX x w) (fun w j => if j = i then lkB H w i - lSa H w i + lX x w else lkB H w j)) :
    Bal { H with l := l', ss := H.ss.set i x } := by
  have hat : ∀ j, ({ H with l := l', ss := H.ss.set i x } : Hs).ss[j]? = if j = i then some x else H.ss[j]? := fun j => by
    simp only
    rw [List.getElem?_set]
    by_cases e : i = j
    · subst e
      rw [if_pos rfl, if_pos (by rw [gd.ns]; exact hi), if_pos rfl]
    · rw [if_neg e, if_neg (fun h => e h.symm)]
  have hSi : ∀ w, hSa { H with l := l', ss := H.ss.set i x } w i = hX x w := fun w => hSa_at (by rw [hat i, if_pos rfl]) w
  have lSi : ∀ w, lSa { H with l := l', ss := H.ss.set i x } w i = lX x w := fun w => lSa_at (by rw [hat i, if_pos rfl]) w
  have hSn : ∀ w j, j ≠ i → hSa { H with l := l', ss := H.ss.set i x } w j = hSa H w j := fun w j hj => by
    unfold hSa
    rw [hat j, if_neg hj]
  have lSn : ∀ w j, j ≠ i → lSa { H with l := l', ss := H.ss.set i x } w j = lSa H w j := fun w j hj => by
    unfold lSa
    rw [hat j, if_neg hj]
  refine ⟨hB.congr (fun w hw' => ?_) (fun w hw' j hj => ?_), fun j o ho => by show OdN l'.length o; rw [hl]; exact bal.od j o ho⟩
  · have := sumTo_set (f := hI H w) (f' := hI { H with l := l', ss := H.ss.set i x } w) (i := i) (fun j hj => by
      unfold hI; rw [hSn w j hj]; rfl) H.g
    show _ = Clo.sumTo (hI { H with l := l', ss := H.ss.set i x } w) H.g
    rw [this, if_pos hi]
    have e1 : hI { H with l := l', ss := H.ss.set i x } w i = wsum (hT w) (H.book i).os + hX x w := by
      unfold hI; rw [hSi w]; rfl
    have e0 : hI H w i = wsum (hT w) (H.book i).os + hSa H w i := rfl
    show _ = hcB H w + _
    rw [e1, e0]
    omega
  · have e0 : lkB H w j = wsum (lT w) (H.book j).os + lSa H w j := rfl
    have e1 : lkB { H with l := l', ss := H.ss.set i x } w j = wsum (lT w) (H.book j).os + lSa { H with l := l', ss := H.ss.set i x } w j := rfl
    rw [e1]
    by_cases e : j = i
    · rw [if_pos e, e, lSi w]
      have e2 : lkB H w i = wsum (lT w) (H.book i).os + lSa H w i := rfl
      omega
    · rw [if_neg e, lSn w j e]; exact e0
theorem trade0 (g : Nat) (l : Ks) (good s q p : Int) : tradeL g l good s q 0 p = l := by
  have h1 : tradeL1 l s q 0 p = l := by
    unfold tradeL1
    rw [Int.zero_mul]
    exact gate_no (refE_low (by omega))
  unfold tradeL
  rw [h1]
  exact gate_no (refG_low (by omega))
/-- What an auction that is over sells: to each no more than it holds the cash for, in all no more than there is. -/
theorem sale_hld {A : Clo.Au} (h : Clo.Inv A) (h0 : A.state = 0) (hn : A.next.1 = true) {w : Nat} (hw : w < A.ds.length) : 0 ≤ A.next.2.2.saleAt w ∧ 0 ≤ A.next.2.2.saleP ∧ A.next.2.2.saleAt w * A.next.2.2.saleP ≤ hldM A w := by
  have hi := h.next
  have hb1 := (sale_at_bd hi (i := w) (by rw [(next_over hn).2]; exact hw)).1
  have hb2 := (sale_pr_bd hi).1
  refine ⟨hb1, hb2, ?_⟩
  have hd := h.dm w hw
  have hp := h.price0
  have hH := (hld_bd h hw)
  have hm1 : Clo.nowOf A.ds w * A.price ≤ hldM A w := by unfold hldM; exact Int.le_max_right _ _
  have hm2 : Clo.wasOf A.ds w * A.last ≤ hldM A w := by unfold hldM; exact Int.le_max_left _ _
  have hnext : A.next.2.2 = { A with state := 1 } ∨ A.next.2.2 = { A with state := 2 } := by
    unfold Clo.Au.next at hn ⊢
    rw [if_neg (by omega)] at hn ⊢
    split
    · exact Or.inl rfl
    · next h1 =>
      rw [if_neg h1] at hn
      split
      · exact Or.inr rfl
      · next h2 => rw [if_neg h2] at hn; cases hn
  rcases hnext with e | e
  · rw [e] at hi ⊢
    unfold Clo.Au.saleAt Clo.Au.saleP
    rw [if_pos rfl, if_pos rfl]
    by_cases hpl : Clo.Au.plain { A with state := 1 }
    · rw [if_pos hpl, if_pos hpl]
      exact hm1
    · rw [if_neg hpl, if_neg hpl]
      have hs := Clo.Inv.sh hi rfl hpl
      have he := (hs.each (i := w) (by rw [Clo.gaps_len]; exact hw)).2
      rw [Clo.gaps_at ({ A with state := 1 } : Clo.Au) hw] at he
      have hr : A.round ≠ 1 := fun e => hpl (Or.inl e)
      have hl : A.last = A.price - A.step := by unfold Clo.Au.last; rw [if_neg hr]
      have hl0 := (last_bd h).1
      refine Int.le_trans ?_ hm2
      have e3 : ({ A with state := 1 } : Clo.Au).price - ({ A with state := 1 } : Clo.Au).step = A.last := hl.symm
      rw [e3]
      refine Int.mul_le_mul_of_nonneg_right ?_ hl0
      show Clo.nowOf A.ds w + _ ≤ Clo.wasOf A.ds w
      have e4 : Clo.wasOf ({ A with state := 1 } : Clo.Au).ds w = Clo.wasOf A.ds w := rfl
      have e5 : Clo.nowOf ({ A with state := 1 } : Clo.Au).ds w = Clo.nowOf A.ds w := rfl
      omega
  · rw [e]
    unfold Clo.Au.saleAt Clo.Au.saleP
    rw [if_neg (by show ¬ (2 : Int) = 1; omega), if_neg (by show ¬ (2 : Int) = 1; omega), Int.zero_mul]
    exact hH.2.2.1
theorem sale_sum {A : Clo.Au} (h : Clo.Inv A) (hs : A.state ≠ 0) : Clo.sumTo A.saleAt A.ds.length ≤ A.supply := by
  rcases h.sta with h0 | ⟨h1, h2⟩ | ⟨h1, h2, _⟩
  · exact absurd h0 hs
  · by_cases hp : A.plain
    · have e : ∀ i, i < A.ds.length → A.saleAt i = Clo.nowOf A.ds i := fun i _ => by
        unfold Clo.Au.saleAt
        rw [if_pos h1, if_pos hp]
      rw [Clo.sumTo_congr e]
      exact h2
    · have hsh := Clo.Inv.sh h h1 hp
      have e : ∀ i, i < A.ds.length → A.saleAt i = Clo.nowOf A.ds i + Clo.gAt (Clo.shares (A.supply - A.want) A.gaps) i := fun i _ => by
        unfold Clo.Au.saleAt
        rw [if_pos h1, if_neg hp]
      rw [Clo.sumTo_congr e, Clo.sumTo_add]
      have e2 := hsh.sum
      have e3 : Clo.sumL (Clo.shares (A.supply - A.want) A.gaps) = Clo.sumTo (Clo.gAt (Clo.shares (A.supply - A.want) A.gaps)) A.ds.length := by
        unfold Clo.sumL
        rw [Clo.shares_len, Clo.gaps_len]
      have e4 : Clo.sumTo (Clo.nowOf A.ds) A.ds.length = A.want := rfl
      omega
  · have e : ∀ i, i < A.ds.length → A.saleAt i = 0 := fun i _ => by
      unfold Clo.Au.saleAt
      rw [if_neg (by omega)]
    rw [Clo.sumTo_congr (g := fun _ => 0) e]
    have : ∀ k, Clo.sumTo (fun _ => 0) k = 0 := fun k => by
      induction k with
      | zero => rfl
      | succ k ih => rw [Clo.sumTo, ih]; rfl
    rw [this]
    have := h.sup
    omega
/-- An auction that is over is settled. -/
theorem closeL_bl {H : Hs} (gd : Gd H) (bal : Bal H) {i : Nat} (hi : i < H.g) {x : Clo.Au × Int} (hx : H.ss[i]? = some (some x)) (hn : x.1.next.1 = true) :
    Bl H.g (closeL H.g H.l i (x.1.next.2.2, x.2) (hldM x.1)) (fun w => hcB H w - hSa H w i + hX none w) (fun w j => if j = i then lkB H w i - lSa H w i + lX none w else lkB H w j) := by
  obtain ⟨p0, pI⟩ := gd.pst i x hx
  obtain ⟨d1, d2, d3⟩ := gd.ds i x hx
  obtain ⟨sn, hsn⟩ := Int.eq_ofNat_of_zero_le d2
  have hsl : sn < H.l.length := by omega
  have hov := next_over hn
  have hIn := pI.next
  have hsum := sale_sum hIn hov.1
  have hsup : x.1.next.2.2.supply = x.1.supply := by
    unfold Clo.Au.next
    split
    · rfl
    · split
      · rfl
      · split <;> rfl
  rw [hov.2, hsup] at hsum
  have hdl : x.1.next.2.2.ds.length = x.1.ds.length := by rw [hov.2]
  obtain ⟨gs, hgs⟩ : ∃ gs, x.1.next.2.2.saleAt = gs := ⟨_, rfl⟩
  obtain ⟨pr, hpr⟩ : ∃ pr, x.1.next.2.2.saleP = pr := ⟨_, rfl⟩
  have hw : ∀ w, w < H.l.length → 0 ≤ gs w ∧ 0 ≤ pr ∧ gs w * pr ≤ hldM x.1 w := fun w hw => by
    have := sale_hld pI p0 hn (w := w) (by omega)
    rw [hgs, hpr] at this
    exact this
  rw [hgs] at hsum
  have hmono : ∀ k, k ≤ H.l.length → 0 ≤ Clo.sumTo gs k ∧ Clo.sumTo gs k ≤ x.1.supply := fun k hk => by
    have h1 := Clo.sumTo_nonneg (f := gs) (k := k) (fun j hj => (hw j (by omega)).1)
    refine ⟨h1, ?_⟩
    have h2 : ∀ m, k + m ≤ H.l.length → Clo.sumTo gs k ≤ Clo.sumTo gs (k + m) := fun m => by
      induction m with
      | zero => intro _; exact Int.le_refl _
      | succ m ih =>
        intro hm
        have h3 := ih (by omega)
        have h4 := (hw (k + m) (by omega)).1
        have : Clo.sumTo gs (k + (m + 1)) = Clo.sumTo gs (k + m) + gs (k + m) := rfl
        omega
    have h3 := h2 (H.l.length - k) (by omega)
    rw [show k + (H.l.length - k) = H.l.length by omega] at h3
    rw [d1] at hsum
    omega
  have hS : ∀ w, hSa H w i = hldM x.1 w := fun w => hSa_at hx w
  have hL : lSa H sn i = x.1.supply := by rw [lSa_at hx]; show (if x.2 = (sn : Int) then x.1.supply else 0) = _; rw [if_pos hsn]
  have hLn : ∀ w, w ≠ sn → lSa H w i = 0 := fun w e => by rw [lSa_at hx]; show (if x.2 = (w : Int) then x.1.supply else 0) = _; rw [if_neg (by omega)]
  have hk : ∀ k, k ≤ H.l.length → Bl H.g (cloS H.g i sn pr gs (hldM x.1) H.l k) (fun w => hcB H w - if w < k then hldM x.1 w else 0) (fun w j => if w = sn ∧ j = i then lkB H w j - Clo.sumTo gs k else lkB H w j) := by
    intro k
    induction k with
    | zero =>
      intro _
      refine bal.b.congr (fun w hw => ?_) (fun w hw j hj => ?_)
      · rw [if_neg (by omega)]; omega
      · split
        · show _ = lkB H w j - 0; omega
        · rfl
    | succ k ih =>
      intro hk
      have hB := ih (by omega)
      have hlen : (cloS H.g i sn pr gs (hldM x.1) H.l k).length = H.l.length := cloS_len _ _ _ _ _ _ _ _
      obtain ⟨g1, g2, g3⟩ := hw k (by omega)
      obtain ⟨m1, m2⟩ := hmono (k + 1) hk
      obtain ⟨m3, m4⟩ := hmono k (by omega)
      have hm : Clo.sumTo gs (k + 1) = Clo.sumTo gs k + gs k := rfl
      have hbdk := bal.bd gd (show k < H.l.length by omega)
      have hbds := (bal.bd gd hsl).2 i hi
      have hnnk := sum_one (f := hI H k) (k := H.g) (fun j _ => hI_nn gd (by omega) j) i hi
      have hwh := wH_nn (gd.bk i) k
      have hwl := wL_nn (gd.bk i) sn
      have q1 : hcB H k = Clo.sumTo (hI H k) H.g := rfl
      have q2 : hI H k i = wsum (hT k) (H.book i).os + hSa H k i := rfl
      have q3 : lkB H sn i = wsum (lT sn) (H.book i).os + lSa H sn i := rfl
      rw [hS k] at q2
      rw [hL] at q3
      show Bl H.g (bindL H.g (tradeL H.g (cloS H.g i sn pr gs (hldM x.1) H.l k) i sn k (gs k) pr) k (-1) (gs k * pr - hldM x.1 k)) _ _
      have hT : Bl H.g (tradeL H.g (cloS H.g i sn pr gs (hldM x.1) H.l k) i sn k (gs k) pr) (fun w => if w = k then hcB H w - gs k * pr else hcB H w - if w < k then hldM x.1 w else 0) (fun w j => if w = sn ∧ j = i then lkB H w j - Clo.sumTo gs (k + 1) else lkB H w j) := by
        by_cases h0 : gs k = 0
        · rw [h0, trade0]
          refine hB.congr (fun w hw => ?_) (fun w hw j hj => ?_)
          · by_cases e : w = k
            · rw [if_pos e, if_neg (by omega), Int.zero_mul]
            · rw [if_neg e]
          · rw [hm, h0]; split <;> omega
        · have ht := hB.trade gd.inv.g4 (s := sn) (q := k) (by omega) (by omega) hi (n := gs k) (p := pr) (by omega) g2
            (by rw [if_neg (by omega)]; omega) (by rw [if_pos ⟨rfl, rfl⟩]; omega) (by rw [if_neg (by omega)]; omega) (by rw [if_pos ⟨rfl, rfl⟩]; omega)
          refine ht.congr (fun w hw => ?_) (fun w hw j hj => ?_)
          · unfold up1
            (try dsimp only)
            by_cases e : w = k
            · rw [if_pos e, if_pos e, if_neg (by omega), e]; omega
            · rw [if_neg e, if_neg e]
          · unfold up2
            (try dsimp only)
            by_cases e : w = sn ∧ j = i
            · rw [if_pos e, if_pos e, if_pos ⟨rfl, rfl⟩, hm, e.1, e.2]; omega
            · rw [if_neg e, if_neg e, if_neg e]
      have hlt : (tradeL H.g (cloS H.g i sn pr gs (hldM x.1) H.l k) i sn k (gs k) pr).length = H.l.length := by rw [tradeL_len]; exact hlen
      have hb := hT.bind1 (w := k) (by omega) (gs k * pr - hldM x.1 k) (by rw [if_pos rfl]; omega) (by rw [if_pos rfl]; have := Int.mul_nonneg g1 g2; omega) (fun h => by omega)
      refine hb.congr (fun w hw => ?_) (fun _ _ _ _ => rfl)
      unfold up1
      (try dsimp only)
      by_cases e : w = k
      · rw [if_pos e, if_pos rfl, if_pos (by omega), e]; omega
      · rw [if_neg e, if_neg e]
        by_cases e2 : w < k
        · rw [if_pos e2, if_pos (by omega)]
        · rw [if_neg e2, if_neg (by omega)]
  have hfin := hk _ (Nat.le_refl _)
  have hlen : (cloS H.g i sn pr gs (hldM x.1) H.l H.l.length).length = H.l.length := cloS_len _ _ _ _ _ _ _ _
  have hbds := (bal.bd gd hsl).2 i hi
  have hwl := wL_nn (gd.bk i) sn
  have q3 : lkB H sn i = wsum (lT sn) (H.book i).os + lSa H sn i := rfl
  rw [hL] at q3
  obtain ⟨m1, m2⟩ := hmono _ (Nat.le_refl _)
  have hb := hfin.bind2 (w := sn) (by omega) hi (-(x.1.supply - Clo.sumTo gs H.l.length)) (by rw [if_pos ⟨rfl, rfl⟩]; omega) (by rw [if_pos ⟨rfl, rfl⟩]; omega) (fun h => by omega)
  have hcl : closeL H.g H.l i (x.1.next.2.2, x.2) (hldM x.1) = bindL H.g (cloS H.g i sn pr gs (hldM x.1) H.l H.l.length) sn i (-(x.1.supply - Clo.sumTo gs H.l.length)) := by
    unfold closeL
    simp only
    rw [hgs, hpr, hsn, hdl, d1, hsup]
  rw [hcl]
  refine hb.congr (fun w hw => ?_) (fun w hw j hj => ?_)
  · rw [bindL_len] at hw
    rw [if_pos (by omega), hS w]
    show _ = _ + 0
    omega
  · unfold up2
    (try dsimp only)
    by_cases e : j = i
    · rw [if_pos e]
      by_cases e2 : w = sn
      · rw [if_pos ⟨e2, e⟩, if_pos ⟨rfl, rfl⟩, e2, hL]
        show _ = _ + 0
        omega
      · rw [if_neg (fun h => e2 h.1), if_neg (fun h => e2 h.1), hLn w e2, e]
        show _ = _ + 0
        omega
    · rw [if_neg e, if_neg (fun h => e h.2), if_neg (fun h => e h.2)]
end Go.Proofs.YtpekfpfhonechaaGreat

namespace Go.Proofs.YtpekfpfhonechaaGreat
set_option linter.unusedSimpArgs false
set_option linter.unusedVariables false

theorem tdiv_le {a b : Int} (ha : 0 ≤ a) (hb : 1 ≤ b) : 0 ≤ a.tdiv b ∧ a.tdiv b * b ≤ a := by
  rw [Int.tdiv_eq_ediv_of_nonneg ha]
  exact ⟨Int.ediv_nonneg ha (by omega), Int.ediv_mul_le a (by omega)⟩
/-- Where one wants more than it can pay for it wants less; all that it holds then is its own. -/
theorem cut_hld {A : Clo.Au} (h : Clo.Inv A) (h0 : A.state = 0) {l : Ks} {w : Nat} (hw : w < A.ds.length) (hwn : Clo.nowOf A.ds w ≤ Clo.wasOf A.ds w) (hp : 1 ≤ A.price) {held : Int}
    (hf : 0 ≤ freeL l w (-1) + held) (hwas : Clo.wasOf A.ds w * A.last ≤ freeL l w (-1) + held) : hldM (cutA l A w held) w ≤ freeL l w (-1) + held := by
  have hd := h.dm w hw
  obtain ⟨t0, t1⟩ := tdiv_le hf hp
  unfold cutA
  split
  · next hc =>
    have hq : cutQ l A w held = (freeL l w (-1) + held).tdiv A.price := rfl
    rw [hq] at hc ⊢
    generalize (freeL l w (-1) + held).tdiv A.price = q at *
    have e : (A.bid w q).2 = { A with ds := A.ds.set w ⟨Clo.wasOf A.ds w, q⟩ } := by
      unfold Clo.Au.bid
      rw [if_neg (by omega), if_neg (by omega), if_neg (by rw [Int.toNat_natCast]; omega)]
      simp only [Int.toNat_natCast]
    have e2 : Clo.dAt (A.ds.set w ⟨Clo.wasOf A.ds w, q⟩) w = ⟨Clo.wasOf A.ds w, q⟩ := by
      unfold Clo.dAt
      rw [List.getElem?_set_self (by exact hw)]
      rfl
    have ew : Clo.wasOf (A.ds.set w ⟨Clo.wasOf A.ds w, q⟩) w = Clo.wasOf A.ds w := by
      show (Clo.dAt (A.ds.set w ⟨Clo.wasOf A.ds w, q⟩) w).was = _
      rw [e2]
    have en : Clo.nowOf (A.ds.set w ⟨Clo.wasOf A.ds w, q⟩) w = q := by
      show (Clo.dAt (A.ds.set w ⟨Clo.wasOf A.ds w, q⟩) w).now = _
      rw [e2]
    rw [e]
    unfold hldM
    simp only
    rw [ew, en]
    exact Int.max_le.2 ⟨hwas, t1⟩
  · next hc =>
    have hq : cutQ l A w held = (freeL l w (-1) + held).tdiv A.price := rfl
    rw [hq] at hc
    generalize (freeL l w (-1) + held).tdiv A.price = q at *
    unfold hldM
    refine Int.max_le.2 ⟨hwas, Int.le_trans (Int.mul_le_mul_of_nonneg_right (show Clo.nowOf A.ds w ≤ q by omega) (by omega)) t1⟩
theorem cut_other {A : Clo.Au} {l : Ks} {w v : Nat} {held : Int} (h : v ≠ w) : hldM (cutA l A w held) v = hldM A v ∧ Clo.nowOf (cutA l A w held).ds v = Clo.nowOf A.ds v ∧ Clo.wasOf (cutA l A w held).ds v = Clo.wasOf A.ds v := by
  unfold cutA
  split
  · refine ⟨bid_hld (by omega), ?_⟩
    unfold Clo.Au.bid
    split
    · exact ⟨rfl, rfl⟩
    · split
      · exact ⟨rfl, rfl⟩
      · split
        · exact ⟨rfl, rfl⟩
        · have e : Clo.dAt (A.ds.set (w : Int).toNat ⟨Clo.wasOf A.ds (w : Int).toNat, cutQ l A w held⟩) v = Clo.dAt A.ds v := by
            unfold Clo.dAt
            rw [Int.toNat_natCast, List.getElem?_set_ne (fun e => h e.symm)]
          exact ⟨congrArg Clo.Dm.now e, congrArg Clo.Dm.was e⟩
  · exact ⟨rfl, rfl, rfl⟩
theorem cut_was {A : Clo.Au} {l : Ks} {w v : Nat} {held : Int} : (cutA l A w held).supply = A.supply ∧ (cutA l A w held).last = A.last := by
  unfold cutA
  split
  · refine ⟨bid_sup _ _ _, ?_⟩
    unfold Clo.Au.bid
    split
    · rfl
    · split
      · rfl
      · split <;> rfl
  · exact ⟨rfl, rfl⟩
/-- The bidders' cuts, one by one. -/
structure Cts (H : Hs) (i : Nat) (x : Clo.Au × Int) (k : Nat) (H' : Hs) (A : Clo.Au) : Prop where
  eq : H' = { H with l := H'.l, ss := H.ss.set i (some (A, x.2)) }
  len : H'.l.length = H.l.length
  inv : Led.Inv H.g H'.l
  bl : Bl H.g H'.l (fun w => hcB H w - hldM x.1 w + if w < k then hldM A w else hldM x.1 w) (lkB H)
  aI : Clo.Inv A
  a0 : A.state = 0
  ad : A.ds.length = x.1.ds.length
  asup : A.supply = x.1.supply
  ap : 1 ≤ A.price
  al : A.last = x.1.price
  rest : ∀ w, k ≤ w → w < x.1.ds.length → Clo.nowOf A.ds w = Clo.nowOf x.1.ds w ∧ Clo.wasOf A.ds w = Clo.nowOf x.1.ds w
theorem cuts_bal {H : Hs} (gd : Gd H) (bal : Bal H) {i : Nat} (hi : i < H.g) {x : Clo.Au × Int} (hx : H.ss[i]? = some (some x)) (hn : x.1.next.1 = false) :
    ∀ k, k ≤ H.l.length → ∃ A, Cts H i x k (cutN { H with ss := H.ss.set i (some (x.1.next.2.2, x.2)) } i (hldM x.1) k) A := by
  obtain ⟨p0, pI⟩ := gd.pst i x hx
  obtain ⟨d1, d2, d3⟩ := gd.ds i x hx
  have hno := next_open pI p0 hn
  have hbeg : x.1.next.2.2 = x.1.begin := by
    unfold Clo.Au.next at hn ⊢
    rw [if_neg (by omega)] at hn ⊢
    split
    · next h => rw [if_pos h] at hn; cases hn
    · next h =>
      rw [if_neg h] at hn
      split
      · next h2 => rw [if_pos h2] at hn; cases hn
      · rfl
  have hS : ∀ w, hSa H w i = hldM x.1 w := fun w => hSa_at hx w
  intro k
  induction k with
  | zero =>
    intro _
    refine ⟨x.1.next.2.2, rfl, rfl, gd.inv, bal.b.congr (fun w hw => ?_) (fun _ _ _ _ => rfl), pI.next, hno.2, ?_, ?_, hno.1, ?_, fun w _ hw => ?_⟩
    · rw [if_neg (by omega)]; omega
    · rw [hbeg]; unfold Clo.Au.begin; exact Clo.roll_len _ _
    · rw [hbeg]; rfl
    · rw [hbeg]
      have e2 : x.1.begin.price = x.1.price + x.1.step := by
        unfold Clo.Au.begin Clo.Au.price
        have e2 : x.1.round + 1 - 1 = (x.1.round - 1) + 1 := by omega
        simp only
        rw [e2, Int.add_mul]
        omega
      have hr := pI.rd
      unfold Clo.Au.last
      rw [if_neg (by show ¬ x.1.round + 1 = 1; omega), e2]
      show x.1.price + x.1.step - x.1.step = _
      omega
    · rw [hbeg]
      exact ⟨Clo.nowOf_roll _ hw, Clo.wasOf_roll _ hw⟩
  | succ k ih =>
    intro hk
    obtain ⟨A, c⟩ := ih (by omega)
    obtain ⟨H1, hH1⟩ : ∃ H1, cutN { H with ss := H.ss.set i (some (x.1.next.2.2, x.2)) } i (hldM x.1) k = H1 := ⟨_, rfl⟩
    rw [hH1] at c
    have hss : H1.ss[i]? = some (some (A, x.2)) := by
      rw [c.eq]
      simp only
      rw [List.getElem?_set_self (by rw [gd.ns]; exact hi)]
    have hg1 : H1.g = H.g := by rw [c.eq]
    show ∃ A, Cts H i x (k + 1) (cutR (cutN { H with ss := H.ss.set i (some (x.1.next.2.2, x.2)) } i (hldM x.1) k) i k (hldM x.1 k)) A
    rw [hH1]
    have hcr : cutR H1 i k (hldM x.1 k) = { H1 with l := bindL H1.g H1.l k (-1) (hldM (cutA H1.l A k (hldM x.1 k)) k - hldM x.1 k), ss := H1.ss.set i (some (cutA H1.l A k (hldM x.1 k), x.2)) } := by
      unfold cutR
      rw [hss]
    rw [hcr]
    have hkl : k < H.l.length := by omega
    have hkd : k < A.ds.length := by rw [c.ad, d1]; exact hkl
    obtain ⟨r1, r2⟩ := c.rest k (Nat.le_refl _) (by omega)
    have hf := c.inv.le Led.part0 (i := k) (by rw [c.len]; exact hkl)
    have hfr : freeL H1.l k (-1) = (Led.kAt H1.l k).n 0 - (Led.kAt H1.l k).n 1 := by unfold freeL; rw [if_pos rfl, Int.toNat_natCast]
    have hh := hld_bd pI (who := k) (by omega)
    have hdm := pI.dm k (by omega)
    have hm1 : Clo.nowOf x.1.ds k * x.1.price ≤ hldM x.1 k := by unfold hldM; exact Int.le_max_right _ _
    have hct := cut_hld (l := H1.l) (held := hldM x.1 k) c.aI c.a0 hkd (by rw [r1, r2]; exact Int.le_refl _) c.ap (by omega) (by rw [r2, c.al]; omega)
    have hIA : Clo.Inv (cutA H1.l A k (hldM x.1 k)) := cutA_inv c.aI _ _
    have hkp := cutA_keeps H1.l A k (hldM x.1 k)
    have hnn := (hld_bd hIA (who := k) (by rw [hkp.2]; exact hkd)).2.2.1
    have hbdk := (bal.bd gd hkl).1
    have hs1 := sum_one (f := hI H k) (k := H.g) (fun j _ => hI_nn gd hkl j) i hi
    have q1 : hcB H k = Clo.sumTo (hI H k) H.g := rfl
    have q2 : hI H k i = wsum (hT k) (H.book i).os + hSa H k i := rfl
    have hwh := wH_nn (gd.bk i) k
    rw [hS k] at q2
    have hb := c.bl.bind1 (w := k) (by rw [c.len]; exact hkl) (hldM (cutA H1.l A k (hldM x.1 k)) k - hldM x.1 k) (by rw [if_neg (by omega)]; omega) (by rw [if_neg (by omega)]; omega) (fun _ => ⟨by omega, by omega⟩)
    refine ⟨cutA H1.l A k (hldM x.1 k), ?_, ?_, ?_, ?_, hIA, hkp.1.trans c.a0, hkp.2.trans c.ad, (cut_was (v := 0)).1.trans c.asup, by rw [cutA_price]; exact c.ap, (cut_was (v := 0)).2.trans c.al, fun w hw1 hw2 => ?_⟩
    · have e1 : H1.ss.set i (some (cutA H1.l A k (hldM x.1 k), x.2)) = H.ss.set i (some (cutA H1.l A k (hldM x.1 k), x.2)) := by
        rw [c.eq]
        simp only
        rw [List.set_set]
      rw [e1]
      have e2 : H1.ms = H.ms := by rw [c.eq]
      have e3 : H1.now = H.now := by rw [c.eq]
      simp only [hg1, e2, e3]
    · show (bindL H1.g H1.l k (-1) _).length = _
      exact (bindL_len _ _ _ _ _).trans c.len
    · show Led.Inv H.g (bindL H1.g H1.l k (-1) _)
      rw [hg1]
      exact Ivb c.inv _ _ _
    · show Bl H.g (bindL H1.g H1.l k (-1) _) _ _
      rw [hg1]
      refine hb.congr (fun w hw => ?_) (fun _ _ _ _ => rfl)
      unfold up1
      (try dsimp only)
      by_cases e : w = k
      · rw [if_pos e, if_neg (by omega), if_pos (by omega), e]; omega
      · rw [if_neg e, (cut_other e).1]
        by_cases e2 : w < k
        · rw [if_pos e2, if_pos (by omega)]
        · rw [if_neg e2, if_neg (by omega)]
    · obtain ⟨_, o2, o3⟩ := cut_other (A := A) (l := H1.l) (held := hldM x.1 k) (show w ≠ k by omega)
      rw [o2, o3]
      exact c.rest w (by omega) hw2
theorem endR_bal {H : Hs} (gd : Gd H) (bal : Bal H) {i : Nat} (hi : i < H.g) : Gd (endR H i) ∧ Bal (endR H i) := by
  have hps := endR_pst gd.pst i
  have hhp := endR_hps gd.inv.g4 i
  unfold endR at hps hhp ⊢
  split
  · next x hx =>
    rw [hx] at hps hhp
    simp only at hps hhp
    obtain ⟨d1, d2, d3⟩ := gd.ds i x hx
    split
    · next hn =>
      rw [if_pos hn] at hps hhp
      have hll : (closeL H.g H.l i (x.1.next.2.2, x.2) (hldM x.1)).length = H.l.length := closeL_len _ _ _ _ _
      refine ⟨⟨Ivcl gd.inv _ _ _, gd.nm, by simp only [List.length_set]; exact gd.ns, gd.bk, hps, fun j y hy => ?_⟩, Bal.saleG gd bal hi none hll (closeL_bl gd bal hi hx hn)⟩
      · simp only at hy
        rw [List.getElem?_set] at hy
        show _ = (closeL H.g H.l i (x.1.next.2.2, x.2) (hldM x.1)).length ∧ _ ∧ _ < ((closeL H.g H.l i (x.1.next.2.2, x.2) (hldM x.1)).length : Int)
        rw [hll]
        split at hy
        · split at hy
          · cases hy
          · cases hy
        · exact gd.ds j y hy
    · next hn =>
      rw [if_neg hn] at hps hhp
      have hn' : x.1.next.1 = false := by simpa using hn
      obtain ⟨A, c⟩ := cuts_bal gd bal hi hx hn' H.l.length (Nat.le_refl _)
      rw [d1] at hps hhp ⊢
      obtain ⟨H1, hH1⟩ : ∃ H1, cutN { H with ss := H.ss.set i (some (x.1.next.2.2, x.2)) } i (hldM x.1) H.l.length = H1 := ⟨_, rfl⟩
      rw [hH1] at hps hhp c ⊢
      have hgd : Gd { H with l := H1.l, ss := H.ss.set i (some (A, x.2)) } := by
        refine ⟨c.inv, gd.nm, by simp only [List.length_set]; exact gd.ns, gd.bk, by rw [← c.eq]; exact hps, fun j y hy => ?_⟩
        simp only at hy
        rw [List.getElem?_set] at hy
        show _ = H1.l.length ∧ _ ∧ _ < (H1.l.length : Int)
        rw [c.len]
        split at hy
        · split at hy
          · simp only [Option.some.injEq] at hy
            rw [← hy]
            exact ⟨c.ad.trans d1, d2, d3⟩
          · cases hy
        · exact gd.ds j y hy
      rw [c.eq]
      refine ⟨hgd, Bal.saleG gd bal hi (some (A, x.2)) c.len (c.bl.congr (fun w hw => ?_) (fun w hw j hj => ?_))⟩
      · have hS : hSa H w i = hldM x.1 w := hSa_at hx w
        rw [c.len] at hw
        rw [if_pos hw, hS]
        rfl
      · split
        · next e =>
          have hL : lSa H w i = lX (some x) w := lSa_at hx w
          have : lX (some (A, x.2)) w = lX (some x) w := by
            show (if x.2 = (w : Int) then A.supply else 0) = (if x.2 = (w : Int) then x.1.supply else 0)
            rw [c.asup]
          rw [hL, this, e]; omega
        · rfl
  · exact ⟨gd, bal⟩
theorem tick1_bal {H : Hs} (gd : Gd H) (bal : Bal H) {i : Nat} (hi : i < H.g) : Gd (tick1 endR H i) ∧ Bal (tick1 endR H i) := by
  have h1 := clr1_gd gd i
  have h2 := clr1_bal gd bal hi
  unfold tick1
  split
  · exact endR_bal h1 h2 hi
  · exact ⟨h1, h2⟩
theorem tickN_bal {H : Hs} (gd : Gd H) (bal : Bal H) : ∀ k, k ≤ H.g → Gd (tickN endR H k) ∧ Bal (tickN endR H k)
  | 0, _ => ⟨gd, bal⟩
  | k + 1, hk => by
    obtain ⟨h1, h2⟩ := tickN_bal gd bal k (by omega)
    rw [tickN_succ]
    have hg := (tickN_hps gd.inv.g4 k).g
    exact tick1_bal h1 h2 (by rw [hg]; omega)
theorem tickR_bal {H : Hs} (gd : Gd H) (bal : Bal H) : Bal (tickR endR H).2 := by
  unfold tickR
  split
  · exact bal
  · exact (tickN_bal (H := { H with now := H.now + 1 }) ⟨gd.inv, gd.nm, gd.ns, gd.bk, gd.pst, gd.ds⟩ ⟨bal.b, bal.od⟩ _ (Nat.le_refl _)).2
end Go.Proofs.YtpekfpfhonechaaGreat

namespace Go.Proofs.YtpekfpfhonechaaGreat
set_option linter.unusedSimpArgs false
set_option linter.unusedVariables false

/-- Accounts that are as they were but for what is free. -/
structure Fr (l l' : Ks) : Prop where
  len : l'.length = l.length
  h : ∀ w, w < l.length → (Led.kAt l' w).n 1 = (Led.kAt l w).n 1
  k : ∀ w, w < l.length → ∀ j, j < 4 → (Led.kAt l' w).n (6 + j) = (Led.kAt l w).n (6 + j)
theorem Fr.refl (l : Ks) : Fr l l := ⟨rfl, fun _ _ => rfl, fun _ _ _ _ => rfl⟩
theorem Fr.upd {l : Ks} {i a : Nat} {v : Int} (hi : i < l.length) (ha : a ≠ 1 ∧ a < 6 ∨ a = 10) : Fr l (Led.upd l i a v) :=
  ⟨Led.upd_len _ _ _ _, fun w _ => (upd_free hi ha).1 w, fun w _ j hj => (upd_free hi ha).2 w j hj⟩
theorem Fr.gate {e : Int} {l : Ks} {r : Int × Ks} (h : e = 0 → Fr l r.2) : Fr l (Led.gate e l r).2 := by
  unfold Led.gate
  split
  · next he => exact h he
  · exact Fr.refl l
theorem Fr.inR {l : Ks} {i a : Nat} (hi : i < l.length) (ha : a ≠ 1 ∧ a < 6 ∨ a = 10) (n : Int) : Fr l (Led.inR l i a n).2 := by
  unfold Led.inR
  split
  · exact Fr.refl l
  · exact Fr.upd hi ha
theorem Fr.outR {l : Ks} {i a h : Nat} (hi : i < l.length) (ha : a ≠ 1 ∧ a < 6 ∨ a = 10) (n : Int) : Fr l (Led.outR l i a h n).2 := by
  unfold Led.outR
  split
  · exact Fr.refl l
  · exact Fr.upd hi ha
theorem Bal.fr {H : Hs} (g4 : H.g ≤ 4) (bal : Bal H) {l' : Ks} (h : Fr H.l l') : Bal { H with l := l' } :=
  Bal.acc bal h.len (fun w hw => h.h w (by rw [← h.len]; exact hw)) (fun w hw i hi => h.k w (by rw [← h.len]; exact hw) i (by omega))
theorem accH_bal {H : Hs} (g4 : H.g ≤ 4) (bal : Bal H) (f : Nat → Ks → Int → Oo → Int × Ks) (who : Int) (o : Oo) (h : Fr H.l (f H.g H.l who o).2) : Bal (accH f H who o).2 := bal.fr g4 h
theorem deedR_bal {H : Hs} (gd : Gd H) (bal : Bal H) {w : Nat} (hw : w < H.l.length) {o : Oo} (ho : o.good) : Bal (deedR H w o).2 := by
  have g4 := gd.inv.g4
  by_cases hz : (deedR H w o).1 = 0
  · unfold deedR at hz ⊢
    split
    · exact tickR_bal gd bal
    next k1 =>
    rw [if_neg k1] at hz
    split
    · refine accH_bal g4 bal _ _ _ (Fr.gate fun e => ?_)
      rw [Int.toNat_natCast]
      exact Fr.inR hw (by omega) _
    next k2 =>
    rw [if_neg k2] at hz
    split
    · refine accH_bal g4 bal _ _ _ (Fr.gate fun e => ?_)
      rw [Int.toNat_natCast]
      exact Fr.outR hw (by omega) _
    next k3 =>
    rw [if_neg k3] at hz
    split
    · refine accH_bal g4 bal _ _ _ (Fr.gate fun e => ?_)
      obtain ⟨_, q, hq, hq2⟩ := Led.refG_ok e
      rw [Int.toNat_natCast]
      exact Fr.inR hw (by omega) _
    next k4 =>
    rw [if_neg k4] at hz
    split
    · refine accH_bal g4 bal _ _ _ (Fr.gate fun e => ?_)
      obtain ⟨_, q, hq, hq2⟩ := Led.refG_ok e
      rw [Int.toNat_natCast]
      exact Fr.outR hw (by omega) _
    next k5 =>
    rw [if_neg k5] at hz
    split
    · next k => rw [if_pos k] at hz; exact offerR_bal gd bal hw ho hz
    next k6 =>
    rw [if_neg k6] at hz
    split
    · next k => rw [if_pos k] at hz; exact wantR_bal gd bal hw ho hz
    next k7 =>
    rw [if_neg k7] at hz
    split
    · next k => rw [if_pos k] at hz; exact putR_bal gd bal hw ho hz
    next k8 =>
    rw [if_neg k8] at hz
    split
    · next k => rw [if_pos k] at hz; exact amendR_bal gd bal hw ho hz
    next k9 =>
    rw [if_neg k9] at hz
    split
    · next k => rw [if_pos k] at hz; exact cancelR_bal gd bal hw ho hz
    next k10 =>
    rw [if_neg k10] at hz
    cases hz
  · rw [deedR_not gd.pst hz]
    exact bal
theorem reqR_bal {H : Hs} (gd : Gd H) (bal : Bal H) {w : Nat} (hw : w < H.l.length) (op : ByteArray) : Bal (reqR H w op).2 := by
  unfold reqR
  split
  · next o ho => exact deedR_bal gd bal hw (ofOpR_good ho).1
  · exact bal
/-- Behind any request just so much is held and locked as orders and auctions ask for. -/
theorem doR_bal {H : Hs} (gd : Gd H) (bal : Bal H) (who stamp : Int) (op : ByteArray) : Bal (doR H who stamp op).2.2 := by
  unfold doR
  split
  · next hr =>
    obtain ⟨w, rfl, hw, _⟩ := refR_ok hr
    have hb := reqR_bal gd bal hw op
    have hg : (reqR H w op).2.g = H.g := by
      unfold reqR
      split
      · exact (deedR_dps gd.inv.g4 _ _).g
      · rfl
    obtain ⟨m1, m2, m3⟩ := mark_free (l := (reqR H w op).2.l) (who := w) (s := stamp) (t := layR (reqR H w op).1 (valR H w op))
    exact hb.fr (by rw [hg]; exact gd.inv.g4) ⟨m1, m2, m3⟩
  · exact bal
/-- A new house's. -/
theorem new_bal (H : Hs) (hl : ∀ w, w < H.l.length → ∀ k, (Led.kAt H.l w).n k = 0) (hm : ∀ i : Nat, (H.book i).os = []) (hs : ∀ (i : Nat) (x : Clo.Au × Int), H.ss[i]? ≠ some (some x)) : Bal H := by
  have e1 : ∀ w i, hSa H w i = 0 := fun w i => by
    unfold hSa
    split
    · next x hx => exact absurd hx (hs i x)
    · rfl
  have e2 : ∀ w i, lSa H w i = 0 := fun w i => by
    unfold lSa
    split
    · next x hx => exact absurd hx (hs i x)
    · rfl
  refine ⟨⟨fun w hw => ?_, fun w hw i hi => ?_⟩, fun i o ho => ?_⟩
  · rw [hl w hw]
    show 0 = hcB H w
    unfold hcB
    have : ∀ k, Clo.sumTo (hI H w) k = 0 := fun k => by
      induction k with
      | zero => rfl
      | succ k ih => rw [Clo.sumTo, ih]; unfold hI; rw [e1, hm]; rfl
    exact (this _).symm
  · rw [hl w hw]
    unfold lkB
    rw [e2, hm]; rfl
  · rw [hm] at ho; cases ho
end Go.Proofs.YtpekfpfhonechaaGreat

namespace Go.Proofs.YtpekfpfhonechaaGreat
open Go.RowKit
set_option linter.unusedSimpArgs false
set_option linter.unusedVariables false
variable {base : Nat}

/-- What one is told of an auction: its bytes, its seller, whether there is one. -/
def aucR (H : Hs) (i : Nat) : ByteArray × Int × Bool := match H.ss[i]? with
  | some (some x) => (Clo.auB x.1, x.2, true)
  | _ => (⟨#[]⟩, 0, false)
set_option maxRecDepth 100000 in
set_option maxHeartbeats 2000000 in
theorem auction_hs (w : World) {X : Ad} {H : Hs} (h : Hm w base X H) (i : Nat) (hi : i < H.g) :
    Calls Tryz.prog 7 #[.pointer (some ⟨X.p, 0, none⟩), .int .i64 i] w fun e w' => e = .returned (.tuple #[.string (aucR H i).1, .int .i64 (aucR H i).2.1, .bool (aucR H i).2.2]) ∧ Below w.heap.size w w' := by
  have c3 : w.cell? ⟨X.p, 3, none⟩ = some (.slice (some ⟨X.qs, 0, none⟩) H.g H.g) := h.ha.blk.cell rfl
  have hma := made_hs w h.ha
  have HHS : Hid _ := has_hs w h.ha i
  have hg4 := h.ha.lg.inv.g4
  rw [decide_eq_true (show 0 ≤ (i : Int) ∧ (i : Int) ≤ (H.g : Int) - 1 by omega)] at HHS
  have hii : (i : Int) < (H.g : Int) := by omega
  have hns := h.sls.ns
  have hnn := h.sls.nn
  have e1 : X.sl[i]? = some X.sl[i] := List.getElem?_eq_getElem (by omega)
  have e2 : H.ss[i]? = some H.ss[i] := List.getElem?_eq_getElem (by omega)
  have hcs : (X.sl.map ptrS).toArray[i]? = some (ptrS X.sl[i]) := by
    rw [List.getElem?_toArray, List.getElem?_map, e1]; rfl
  have cq : w.cell? ⟨X.qs, i, none⟩ = some (ptrS X.sl[i]) := h.sls.row.cell hcs
  have hnon := h.sls.non i
  have hsal := h.sls.sal i
  rw [e1, e2] at hnon hsal
  unfold aucR
  rw [e2]
  generalize X.sl[i] = sx at *
  generalize H.ss[i] = xx at *
  have HB0 : Hid (Below w.heap.size w w) := Below.refl _ _
  cases xx with
  | none =>
    have hs : sx = none := by simpa using hnon.2 rfl
    subst hs
    unfold ptrS at cq
    rw [Option.map_none] at cq
    generalize X.p = p at *
    generalize X.qs = q at *
    generalize H.g = g at *
    clear hnon hsal e1 e2 hcs hns hnn h
    go_enter Tryz.func7, Tryz.ntmps7
    go_wp2_with fail
    refine hma.mono ?_
    rintro e w1 ⟨rfl, rfl⟩
    go_wp2_with fail
    refine Calls.mono HHS.out ?_
    rintro e w2 ⟨rfl, rfl⟩
    go_wp2
    refine bodyPost_ret (by simp [results, Tryz.results7, go_sem]) rfl ⟨rfl, HB0.out⟩
  | some x =>
    obtain ⟨a, rfl⟩ : ∃ a, sx = some a := by
      cases sx with
      | none => simp at hnon
      | some a => exact ⟨a, rfl⟩
    obtain ⟨hb, hl, _, _⟩ := hsal a x rfl rfl
    have c4 : w.cell? ⟨a.1, 0, none⟩ = some (.pointer (some ⟨a.2.1, 0, none⟩)) := hb.cell rfl
    have c5 : w.cell? ⟨a.1, 1, none⟩ = some (.int .i64 x.2) := hb.cell rfl
    have HBy : Hid (∀ wx, Clo.Lc wx a.2.1 a.2.2 x.1 → _) := fun wx hx => Clo.bytes_calls wx hx
    have HL : Hid _ := hl
    unfold ptrS at cq
    rw [Option.map_some] at cq
    dsimp only at cq ⊢
    generalize X.p = p at *
    generalize X.qs = q at *
    generalize H.g = g at *
    generalize Clo.auB x.1 = bt at *
    generalize x.2 = sl at *
    obtain ⟨a1, a2, a3⟩ := a
    dsimp only at c4 c5 HBy HL cq
    clear hnon hsal e1 e2 hcs hns hnn h hb hl
    go_enter Tryz.func7, Tryz.ntmps7
    go_wp2_with fail
    refine hma.mono ?_
    rintro e w1 ⟨rfl, rfl⟩
    go_wp2_with fail
    refine Calls.mono HHS.out ?_
    rintro e w2 ⟨rfl, rfl⟩
    go_wp2_with fail
    go_upto_region 4 with fail
    refine wp_region_held_drew (S := (fun wx => Chg (fun _ => False) w2 wx)) (by kernel_rfl) (Chg.of_below (Below.refl w2.heap.size w2) : Chg (fun _ => False) w2 w2).drew (fun hS => ?_)
    refine tkG (i := 0) (v := .pointer (some ⟨a1, 0, none⟩)) rfl hS ?_
    refine tkG (i := 1) (v := .pointer (some ⟨a1, 0, none⟩)) rfl hS ?_
    refine tkG (i := 2) (v := .pointer (some ⟨a1, 0, none⟩)) rfl hS ?_
    refine tkH (i := 3) (v := .pointer (some ⟨a2, 0, none⟩)) rfl (fun w3 hS => by have e0 : w3.cell? ⟨a1, 0, none⟩ = some (.pointer (some ⟨a2, 0, none⟩)) := Chg.cell hS c4 (fun e => e); go_simp) hS ?_
    refine tkG (i := 5) (v := .pointer (some ⟨a1, 0, none⟩)) rfl hS ?_
    refine tkG (i := 6) (v := .pointer (some ⟨a1, 0, none⟩)) rfl hS ?_
    refine tkG (i := 7) (v := .pointer (some ⟨a1, 1, none⟩)) rfl hS ?_
    refine tkH (i := 8) (v := .int .i64 sl) rfl (fun w3 hS => by have e0 : w3.cell? ⟨a1, 1, none⟩ = some (.int .i64 sl) := Chg.cell hS c5 (fun e => e); go_simp) hS ?_
    refine wpAnyH_ready (rs := [4]) (by kernel_rfl) (by simp) ?_
    refine AllReadyH.cons rfl (fun K hK => ?_) AllReadyH.nil
    go_simp
    refine (HBy.out _ (HL.out.below (Below.refl _ _).drew)).mono ?_
    rintro e w4 ⟨rfl, b4⟩
    have b5 : Below w2.heap.size w2 w4 := ((Below.refl w2.heap.size w2).drew).trans b4
    refine hK.out _ _ (Chg.of_below b5) (fun hS => ?_)
    clear hK
    refine tkG (i := 9) (v := .string bt) rfl hS ?_
    refine tkG (i := 10) (v := .int .i64 sl) rfl hS ?_
    refine tkG (i := 11) (v := .bool true) rfl hS ?_
    refine wpAnyH_done (by kernel_rfl) ?_ _
    go_wp2
    refine bodyPost_ret (by simp [results, Tryz.results7, go_sem]) rfl ⟨rfl, b5⟩
end Go.Proofs.YtpekfpfhonechaaGreat
