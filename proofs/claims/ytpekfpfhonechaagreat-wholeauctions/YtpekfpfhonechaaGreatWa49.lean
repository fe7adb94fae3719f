/- The house: requests that are no tick keep the balance. -/
import Derived.Test.YtpekfpfhonechaaGreatWa48
namespace Go.Proofs.YtpekfpfhonechaaGreat
set_option linter.unusedSimpArgs false
set_option linter.unusedVariables false

theorem wsum_app (c : Cal.Od → Int) : ∀ a b : List Cal.Od, wsum c (a ++ b) = wsum c a + wsum c b
  | [], b => by simp [wsum]
  | o :: a, b => by simp only [List.cons_append, wsum, wsum_app c a b]; omega
theorem wsum_erase (c : Cal.Od → Int) : ∀ (l : List Cal.Od) (i : Nat) (q : Cal.Od), l[i]? = some q → wsum c (l.eraseIdx i) = wsum c l - c q * q.am
  | o :: r, 0, q, h => by
    obtain rfl : o = q := by simpa using h
    simp only [List.eraseIdx_cons_zero, wsum]; omega
  | o :: r, i + 1, q, h => by
    have := wsum_erase c r i q (by simpa using h)
    simp only [List.eraseIdx_cons_succ, wsum, this]; omega
theorem wsum_set (c : Cal.Od → Int) : ∀ (l : List Cal.Od) (i : Nat) (q y : Cal.Od), l[i]? = some q → wsum c (l.set i y) = wsum c l - c q * q.am + c y * y.am
  | o :: r, 0, q, y, h => by
    obtain rfl : o = q := by simpa using h
    simp only [List.set_cons_zero, wsum]; omega
  | o :: r, i + 1, q, y, h => by
    have := wsum_set c r i q y (by simpa using h)
    simp only [List.set_cons_succ, wsum, this]; omega
theorem wsum_mem {c : Cal.Od → Int} : ∀ {l : List Cal.Od}, (∀ o ∈ l, 0 ≤ c o ∧ 0 ≤ o.am) → ∀ q ∈ l, c q * q.am ≤ wsum c l
  | o :: r, h, q, hq => by
    have h1 := h o (List.mem_cons_self ..)
    have h2 := wsum_nn r (fun x hx => h x (List.mem_cons_of_mem _ hx))
    have h3 := Int.mul_nonneg h1.1 h1.2
    simp only [wsum]
    rcases List.mem_cons.1 hq with e | e
    · subst e; omega
    · have := wsum_mem (fun x hx => h x (List.mem_cons_of_mem _ hx)) q e
      omega
/-- What an order holds, and locks, in all. -/
def nH (y : Cal.Od) (n : Int) : Int := if y.by = true then n else 0
def nL (y : Cal.Od) (n : Int) : Int := if y.by = true then 0 else n
theorem hT_is {y : Cal.Od} {w0 : Nat} (h : y.own = w0) (w : Nat) : hT w y * y.am = if w = w0 then nH y (bndN y) else 0 := by
  unfold hT nH bndN
  rw [h]
  by_cases e : w = w0
  · subst e
    cases hb : y.by <;> simp
  · rw [if_neg (fun h => e (by omega)), if_neg e]; omega
theorem lT_is {y : Cal.Od} {w0 : Nat} (h : y.own = w0) (w : Nat) : lT w y * y.am = if w = w0 then nL y (bndN y) else 0 := by
  unfold lT nL bndN
  rw [h]
  by_cases e : w = w0
  · subst e
    cases hb : y.by <;> simp
  · rw [if_neg (fun h => e (by omega)), if_neg e]; omega
theorem Bl.bindT {g : Nat} {l : Ks} {hc : Nat → Int} {lk : Nat → Nat → Int} {w : Nat} (b : Bl g l hc lk) (hw : w < l.length) {i : Nat} (hi : i < g) (y : Cal.Od) (n : Int)
    (h0 : 0 ≤ hc w + nH y n) (h1 : 0 ≤ lk w i + nL y n) (hb : hc w ≤ 1099511627776) (hb2 : lk w i ≤ 1099511627776) (hf : 0 < n → n ≤ freeL l w (bndT i y) ∧ n ≤ 1099511627776) :
    Bl g (bindL g l w (bndT i y) n) (up1 hc w (hc w + nH y n)) (up2 lk w i (lk w i + nL y n)) := by
  unfold bndT nH nL at *
  cases hy : y.by with
  | true =>
    simp only [hy, if_true] at *
    refine (b.bind1 hw n h0 hb hf).congr (fun _ _ => rfl) (fun x hx j hj => ?_)
    unfold up2
    split
    · next e => rw [e.1, e.2]; omega
    · rfl
  | false =>
    simp only [hy, Bool.false_eq_true, if_false] at *
    refine (b.bind2 hw hi n h1 hb2 hf).congr (fun x hx => ?_) (fun _ _ _ _ => rfl)
    unfold up1
    split
    · next e => rw [e]; omega
    · rfl
/-- A market that is another one, with the accounts that it asks for. -/
theorem Bal.book {H : Hs} (gd : Gd H) (bal : Bal H) {i w0 : Nat} (hi : i < H.g) (hw : w0 < H.l.length) (B' : Cal.Bo) (dh dl : Int)
    (hH : ∀ w, wsum (hT w) B'.os = wsum (hT w) (H.book i).os + if w = w0 then dh else 0) (hL : ∀ w, wsum (lT w) B'.os = wsum (lT w) (H.book i).os + if w = w0 then dl else 0)
    {l' : Ks} (hl : l'.length = H.l.length) (hB : Bl H.g l' (up1 (hcB H) w0 (hcB H w0 + dh)) (up2 (lkB H) w0 i (lkB H w0 i + dl))) (hod : ∀ o ∈ B'.os, OdN H.l.length o) :
    Bal { H with l := l', ms := H.ms.set i B' } := by
  have hbk : ∀ j, ({ H with l := l', ms := H.ms.set i B' } : Hs).book j = if j = i then B' else H.book j := fun j => by
    unfold Hs.book
    simp only
    rw [List.getElem?_set]
    by_cases e : i = j
    · subst e
      rw [if_pos rfl, if_pos (by rw [gd.nm]; exact hi), if_pos rfl]; rfl
    · rw [if_neg e, if_neg (fun h => e h.symm)]
  have hSe : ∀ w j, hSa { H with l := l', ms := H.ms.set i B' } w j = hSa H w j := fun w j => rfl
  have lSe : ∀ w j, lSa { H with l := l', ms := H.ms.set i B' } w j = lSa H w j := fun w j => rfl
  refine ⟨hB.congr (fun w hw' => ?_) (fun w hw' j hj => ?_), fun j o ho => ?_⟩
  · have := sumTo_set (f := hI H w) (f' := hI { H with l := l', ms := H.ms.set i B' } w) (i := i) (fun j hj => by
      unfold hI; rw [hbk j, if_neg hj, hSe]) H.g
    show _ = Clo.sumTo (hI { H with l := l', ms := H.ms.set i B' } w) H.g
    rw [this, if_pos hi]
    have e1 : hI { H with l := l', ms := H.ms.set i B' } w i = wsum (hT w) B'.os + hSa H w i := by unfold hI; rw [hbk i, if_pos rfl, hSe]
    have e0 : hI H w i = wsum (hT w) (H.book i).os + hSa H w i := rfl
    show _ = hcB H w + _
    rw [e1, e0, hH w]
    unfold up1
    by_cases e : w = w0
    · rw [if_pos e, if_pos e, e]; omega
    · rw [if_neg e, if_neg e]; omega
  · have e0 : lkB H w j = wsum (lT w) (H.book j).os + lSa H w j := rfl
    have e1 : lkB { H with l := l', ms := H.ms.set i B' } w j = wsum (lT w) (({ H with l := l', ms := H.ms.set i B' } : Hs).book j).os + lSa H w j := rfl
    rw [e1, hbk j]
    unfold up2
    by_cases e : j = i
    · subst e
      rw [if_pos rfl, hL w]
      by_cases e2 : w = w0
      · rw [if_pos ⟨e2, rfl⟩, if_pos e2, ← e2]; omega
      · rw [if_neg (fun h => e2 h.1), if_neg e2]; omega
    · rw [if_neg (fun h => e h.2), if_neg e]; exact e0
  · rw [hbk j] at ho
    show OdN l'.length o
    rw [hl]
    split at ho
    · exact hod o ho
    · exact bal.od j o ho
/-- What an auction holds of a bidder, and locks of its seller. -/
def hX (x : Option (Clo.Au × Int)) (w : Nat) : Int := match x with
  | some y => hldM y.1 w
  | none => 0
def lX (x : Option (Clo.Au × Int)) (w : Nat) : Int := match x with
  | some y => if y.2 = (w : Int) then y.1.supply else 0
  | none => 0
theorem hSa_at {H : Hs} {i : Nat} {x : Option (Clo.Au × Int)} (h : H.ss[i]? = some x) (w : Nat) : hSa H w i = hX x w := by
  unfold hSa hX
  rw [h]
  cases x <;> rfl
theorem lSa_at {H : Hs} {i : Nat} {x : Option (Clo.Au × Int)} (h : H.ss[i]? = some x) (w : Nat) : lSa H w i = lX x w := by
  unfold lSa lX
  rw [h]
  cases x <;> rfl
/-- An auction that is another one, with the accounts that it asks for. -/
theorem Bal.sale {H : Hs} (gd : Gd H) (bal : Bal H) {i w0 : Nat} (hi : i < H.g) (hw : w0 < H.l.length) (x : Option (Clo.Au × Int)) (dh dl : Int)
    (hH : ∀ w, w < H.l.length → hX x w = hSa H w i + if w = w0 then dh else 0) (hL : ∀ w, w < H.l.length → lX x w = lSa H w i + if w = w0 then dl else 0)
    {l' : Ks} (hl : l'.length = H.l.length) (hB : Bl H.g l' (up1 (hcB H) w0 (hcB H w0 + dh)) (up2 (lkB H) w0 i (lkB H w0 i + dl))) :
    Bal { H with l := l', ss := H.ss.set i x } := by
  have hat : ∀ j, ({ H with l := l', ss := H.ss.set i x } : Hs).ss[j]? = if j = i then some x else H.ss[j]? := fun j => by
    simp only
    rw [List.getElem?_set]
    by_cases e : i = j
    · subst e
      rw [if_pos rfl, if_pos (by rw [gd.ns]; exact hi), if_pos rfl]
    · rw [if_neg e, if_neg (fun h => e h.symm)]
  have hSi : ∀ w, hSa { H with l := l', ss := H.ss.set i x } w i = hX x w := fun w => hSa_at (by rw [hat i, if_pos rfl]) w
  have lSi : ∀ w, lSa { H with l := l', ss := H.ss.set i x } w i = lX x w := fun w => lSa_at (by rw [hat i, if_pos rfl]) w
  have hSn : ∀ w j, j ≠ i → hSa { H with l := l', ss := H.ss.set i x } w j = hSa H w j := fun w j hj => by
    unfold hSa
    rw [hat j, if_neg hj]
  have lSn : ∀ w j, j ≠ i → lSa { H with l := l', ss := H.ss.set i x } w j = lSa H w j := fun w j hj => by
    unfold lSa
    rw [hat j, if_neg hj]
  refine ⟨hB.congr (fun w hw' => ?_) (fun w hw' j hj => ?_), fun j o ho => by show OdN l'.length o; rw [hl]; exact bal.od j o ho⟩
  · have hwl : w < H.l.length := by omega
    have := sumTo_set (f := hI H w) (f' := hI { H with l := l', ss := H.ss.set i x } w) (i := i) (fun j hj => by
      unfold hI; rw [hSn w j hj]; rfl) H.g
    show _ = Clo.sumTo (hI { H with l := l', ss := H.ss.set i x } w) H.g
    rw [this, if_pos hi]
    have e1 : hI { H with l := l', ss := H.ss.set i x } w i = wsum (hT w) (H.book i).os + hX x w := by
      unfold hI; rw [hSi w]; rfl
    have e0 : hI H w i = wsum (hT w) (H.book i).os + hSa H w i := rfl
    show _ = hcB H w + _
    rw [e1, e0, hH w hwl]
    unfold up1
    by_cases e : w = w0
    · rw [if_pos e, if_pos e, e]; omega
    · rw [if_neg e, if_neg e]; omega
  · have hwl : w < H.l.length := by omega
    have e0 : lkB H w j = wsum (lT w) (H.book j).os + lSa H w j := rfl
    have e1 : lkB { H with l := l', ss := H.ss.set i x } w j = wsum (lT w) (H.book j).os + lSa { H with l := l', ss := H.ss.set i x } w j := rfl
    rw [e1]
    unfold up2
    by_cases e : j = i
    · subst e
      rw [lSi w, hL w hwl]
      by_cases e2 : w = w0
      · rw [if_pos ⟨e2, rfl⟩, if_pos e2, ← e2]; omega
      · rw [if_neg (fun h => e2 h.1), if_neg e2]; omega
    · rw [if_neg (fun h => e h.2), lSn w j e]; exact e0

theorem putR_bal {H : Hs} (gd : Gd H) (bal : Bal H) {w : Nat} (hw : w < H.l.length) {o : Oo} (ho : o.good) (h : (putR H w o).1 = 0) : Bal (putR H w o).2 := by
  unfold putR at h ⊢
  split at h
  · next h1 => exact absurd h h1
  · next h1 =>
    rw [if_neg h1]
    split at h
    · cases h
    · next h2 =>
      rw [if_neg h2]
      split at h
      · next h3 => exact absurd h h3
      · next h3 =>
        rw [if_neg h3]
        have h1 := Classical.not_not.1 h1
        have h3 := Classical.not_not.1 h3
        unfold ordR at h1 h2 h3 ⊢
        split at h1
        · cases h1
        · next k1 =>
          split at h1
          · cases h1
          · next k2 =>
            split at h1
            · cases h1
            · next k3 =>
              split at h1
              · cases h1
              · next k4 =>
                split at h1
                · next k5 => exact absurd h1 k5
                · next k5 =>
                  rw [if_neg k1, if_neg k2, if_neg k3, if_neg k4, if_neg k5] at h2 h3 ⊢
                  obtain ⟨i, hi⟩ := Int.eq_ofNat_of_zero_le (show 0 ≤ o.g by omega)
                  rw [hi] at h2 h3 ⊢
                  rw [Int.toNat_natCast] at h3 ⊢
                  have hig : i < H.g := by omega
                  obtain ⟨x, hx⟩ : ∃ x : Cal.Od, (16 * o.i + (w : Int), (w : Int), (Quo.ticksR o.pr 6).1, o.a, 0, o.d == 0) = x := ⟨_, rfl⟩
                  have hown : x.own = (w : Int) := by rw [← hx]; rfl
                  have hid : x.id = 16 * o.i + (w : Int) := by rw [← hx]; rfl
                  simp only at h2 h3 ⊢
                  rw [hx] at h2 h3 ⊢
                  obtain ⟨t0, t1⟩ := Quo.ticks_bd (Classical.not_not.1 k5)
                  have hN : 0 ≤ bndN x := by
                    rw [← hx]
                    unfold bndN
                    split
                    · exact Int.mul_nonneg t0 (show 0 ≤ o.a by omega)
                    · show 0 ≤ o.a; omega
                  have hp : (H.book i).put x = (0, (H.book i).stand x) := by
                    unfold Cal.Bo.put at h3 ⊢
                    split
                    · next e => rw [if_pos e] at h3; cases h3
                    · next e =>
                      rw [if_neg e] at h3
                      split
                      · next e2 => rw [if_pos e2] at h3; cases h3
                      · next e2 =>
                        rw [if_neg e2] at h3
                        split
                        · next e3 => rw [if_pos e3] at h3; cases h3
                        · rfl
                  rw [hp]
                  have hbd := bal.bd gd hw
                  have hn1 : 0 ≤ nH x (bndN x) := by unfold nH; split <;> omega
                  have hn2 : 0 ≤ nL x (bndN x) := by unfold nL; split <;> omega
                  have hB := bal.b.bindT hw hig x (bndN x) (by omega) (by have := hbd.2 i hig; omega) hbd.1.2 (hbd.2 i hig).2 (fun hpos => ⟨by omega, by
                    have f1 := free_lim gd hw
                    have f2 := free_limG gd hw hig
                    unfold bndT at h2
                    split at h2 <;> omega⟩)
                  have hwa : ∀ c : Cal.Od → Int, (∀ n, c (Cal.Od.at_ x n) = c x) → wsum c ((H.book i).stand x).os = wsum c (H.book i).os + c x * x.am := fun c hc => by
                    unfold Cal.Bo.stand
                    simp only
                    rw [wsum_app]
                    simp only [wsum, hc]
                    show _ = _ + c x * x.am
                    have : Cal.Od.am (Cal.Od.at_ x (H.book i).nx) = x.am := rfl
                    rw [this]; omega
                  refine Bal.book gd bal hig hw _ (nH x (bndN x)) (nL x (bndN x)) (fun v => ?_) (fun v => ?_) (bindL_len _ _ _ _ _) hB (fun y hy => ?_)
                  · rw [hwa (hT v) (fun _ => rfl), hT_is hown]
                  · rw [hwa (lT v) (fun _ => rfl), lT_is hown]
                  · unfold Cal.Bo.stand at hy
                    rcases List.mem_append.1 hy with e | e
                    · exact bal.od i y e
                    · obtain rfl := List.mem_singleton.1 e
                      obtain ⟨n, hn⟩ := Int.eq_ofNat_of_zero_le ho.2.2.2.1.1
                      exact ⟨w, n, hown, hw, by show x.id = _; rw [hid, hn], by omega⟩
/-- An order that is found by a client's number is that client's. -/
theorem own_found {H : Hs} (gd : Gd H) (bal : Bal H) {i w : Nat} (hw : w < H.l.length) {z : Int} {q : Cal.Od} (hq : q ∈ (H.book i).os) (hid : q.id = 16 * z + w) : q.own = w := by
  obtain ⟨v, x, h1, h2, h3, h4⟩ := bal.od i q hq
  have hl := gd.inv.len
  rw [h1]
  omega
theorem cancelR_bal {H : Hs} (gd : Gd H) (bal : Bal H) {w : Nat} (hw : w < H.l.length) {o : Oo} (ho : o.good) (h : (cancelR H w o).1 = 0) : Bal (cancelR H w o).2 := by
  unfold cancelR at h ⊢
  split at h
  · cases h
  · next k1 =>
    rw [if_neg k1]
    split at h
    · cases h
    · next k2 =>
      rw [if_neg k2]
      split at h
      · cases h
      · next k3 =>
        rw [if_neg k3]
        obtain ⟨i, hi⟩ := Int.eq_ofNat_of_zero_le (show 0 ≤ o.g by omega)
        rw [hi] at k3 ⊢
        rw [Int.toNat_natCast] at k3 ⊢
        have hig : i < H.g := by omega
        rcases Cal.fnd_cases (H.book i).os (16 * o.i + w) with ⟨f1, f2⟩ | ⟨j, q, f1, f2, f3, f4⟩
        · rw [Cal.gtB_none f2] at k3
          exact absurd rfl k3
        · rw [Cal.gtB_some f1 f2 f3]
          simp only
          have hq := List.mem_of_getElem? f2
          have hown := own_found gd bal hw hq f3
          have hca : (H.book i).cancel q.id w = (0, (H.book i).rem j) := by
            unfold Cal.Bo.cancel
            rw [f3, f1, if_neg (by omega), Cal.gtB_some f1 f2 f3]
            simp only
            rw [if_pos hown, Int.toNat_natCast]
          rw [hca]
          have hbd := bal.bd gd hw
          have hb := gd.bk i
          have hmH := wsum_mem (c := hT w) (l := (H.book i).os) (fun y hy => ⟨hT_nn hb w hy, by have := Cal.may_am (hb.may y hy); omega⟩) q hq
          have hmL := wsum_mem (c := lT w) (l := (H.book i).os) (fun y hy => ⟨lT_nn w y, by have := Cal.may_am (hb.may y hy); omega⟩) q hq
          rw [hT_is hown, if_pos rfl] at hmH
          rw [lT_is hown, if_pos rfl] at hmL
          have hs1 := sum_one (f := hI H w) (k := H.g) (fun j _ => hI_nn gd hw j) i hig
          have hs2 := hSa_nn gd hw i
          have hs3 := lSa_nn gd w i
          have e1 : nH q (-(bndN q)) = -(nH q (bndN q)) := by unfold nH; split <;> omega
          have e2 : nL q (-(bndN q)) = -(nL q (bndN q)) := by unfold nL; split <;> omega
          have hN : 0 ≤ bndN q := by
            have hm := may_bd (hb.may q hq)
            exact hm.2.2.1.1
          have hB := bal.b.bindT hw hig q (-(bndN q)) (by rw [e1]; have q1 : hcB H w = Clo.sumTo (hI H w) H.g := rfl; have q2 : hI H w i = wsum (hT w) (H.book i).os + hSa H w i := rfl; omega) (by rw [e2]; have q3 : lkB H w i = wsum (lT w) (H.book i).os + lSa H w i := rfl; omega) hbd.1.2 (hbd.2 i hig).2 (fun hpos => by omega)
          rw [e1, e2] at hB
          refine Bal.book gd bal hig hw _ (-(nH q (bndN q))) (-(nL q (bndN q))) (fun v => ?_) (fun v => ?_) (bindL_len _ _ _ _ _) hB (fun y hy => ?_)
          · show wsum (hT v) ((H.book i).os.eraseIdx j) = _
            rw [wsum_erase _ _ _ _ f2, hT_is hown]
            split <;> omega
          · show wsum (lT v) ((H.book i).os.eraseIdx j) = _
            rw [wsum_erase _ _ _ _ f2, lT_is hown]
            split <;> omega
          · exact bal.od i y ((List.eraseIdx_sublist ..).subset hy)
theorem amendR_bal {H : Hs} (gd : Gd H) (bal : Bal H) {w : Nat} (hw : w < H.l.length) {o : Oo} (ho : o.good) (h : (amendR H w o).1 = 0) : Bal (amendR H w o).2 := by
  unfold amendR at h ⊢
  split at h
  · next h1 => exact absurd h h1
  · next h1 =>
    rw [if_neg h1]
    split at h
    · cases h
    · next h2 =>
      rw [if_neg h2]
      have h1 := Classical.not_not.1 h1
      unfold ordR at h1
      split at h1
      · cases h1
      · next k1 =>
        split at h1
        · cases h1
        · next k2 =>
          split at h1
          · cases h1
          · next k3 =>
            split at h1
            · cases h1
            · next k4 =>
              split at h1
              · next k5 => exact absurd h1 k5
              · next k5 =>
                have hx : (ordR H.g w o).1 = (16 * o.i + (w : Int), (w : Int), (Quo.ticksR o.pr 6).1, o.a, 0, o.d == 0) := by
                  unfold ordR
                  rw [if_neg k1, if_neg k2, if_neg k3, if_neg k4, if_neg k5]
                rw [hx] at h h2 ⊢
                obtain ⟨x, hx2⟩ : ∃ x : Cal.Od, (16 * o.i + (w : Int), (w : Int), (Quo.ticksR o.pr 6).1, o.a, 0, o.d == 0) = x := ⟨_, rfl⟩
                have hxid : x.id = 16 * o.i + (w : Int) := by rw [← hx2]; rfl
                rw [hx2] at h h2 ⊢
                clear hx hx2
                obtain ⟨i, hi⟩ := Int.eq_ofNat_of_zero_le (show 0 ≤ o.g by omega)
                rw [hi] at h h2 ⊢
                rw [Int.toNat_natCast] at h h2 ⊢
                have hig : i < H.g := by omega
                rcases Cal.fnd_cases (H.book i).os x.id with ⟨f1, f2⟩ | ⟨j, q, f1, f2, f3, f4⟩
                · rw [Cal.gtB_none f2] at h2
                  exact absurd rfl h2
                · rw [Cal.gtB_some f1 f2 f3] at h ⊢
                  simp only at h ⊢
                  have hq := List.mem_of_getElem? f2
                  have hown := own_found gd bal hw hq (f3.trans hxid)
                  unfold amdR at h ⊢
                  split at h
                  · cases h
                  · next h5 =>
                    rw [if_neg h5]
                    rw [Int.toNat_natCast] at h ⊢
                    split at h
                    · next h6 => exact absurd h h6
                    · next h6 =>
                      rw [if_neg h6]
                      have h6 := Classical.not_not.1 h6
                      have ham : (H.book i).amend x.id w x.pr x.am = (H.book i).amd j q x.pr x.am := by
                        unfold Cal.Bo.amend
                        rw [f1, if_neg (by omega), Cal.gtB_some f1 f2 f3]
                        simp only
                        rw [if_pos hown, Int.toNat_natCast]
                      rw [ham] at h6 ⊢
                      obtain ⟨y, hy⟩ : ∃ y : Cal.Od, Cal.Od.amd q x.pr x.am = y := ⟨_, rfl⟩
                      have hyo : y.own = (w : Int) := by rw [← hy]; exact hown
                      have hyb : y.by = q.by := by rw [← hy]; rfl
                      have hyid : y.id = q.id := by rw [← hy]; rfl
                      have hyN : bndN (byq x q) = bndN y := by rw [← hy]; rfl
                      have hyT : bndT i (byq x q) = bndT i y := by rw [← hy]; rfl
                      rw [hyN, hyT] at h5 ⊢
                      have hmay : Cal.mayB y = true := by
                        unfold Cal.Bo.amd at h6
                        rw [hy] at h6
                        split at h6
                        · cases h6
                        · next hm => simpa using hm
                      have hbd := bal.bd gd hw
                      have hb := gd.bk i
                      have hmH := wsum_mem (c := hT w) (l := (H.book i).os) (fun y hy => ⟨hT_nn hb w hy, by have := Cal.may_am (hb.may y hy); omega⟩) q hq
                      have hmL := wsum_mem (c := lT w) (l := (H.book i).os) (fun y hy => ⟨lT_nn w y, by have := Cal.may_am (hb.may y hy); omega⟩) q hq
                      rw [hT_is hown, if_pos rfl] at hmH
                      rw [lT_is hown, if_pos rfl] at hmL
                      have hs1 := sum_one (f := hI H w) (k := H.g) (fun j _ => hI_nn gd hw j) i hig
                      have hs2 := hSa_nn gd hw i
                      have hs3 := lSa_nn gd w i
                      have hNy := (may_bd hmay).2.2.1.1
                      have e1 : nH y (bndN y - bndN q) = nH y (bndN y) - nH q (bndN q) := by unfold nH; rw [hyb]; split <;> omega
                      have e2 : nL y (bndN y - bndN q) = nL y (bndN y) - nL q (bndN q) := by unfold nL; rw [hyb]; split <;> omega
                      have hn1 : 0 ≤ nH y (bndN y) := by unfold nH; split <;> omega
                      have hn2 : 0 ≤ nL y (bndN y) := by unfold nL; split <;> omega
                      have hB := bal.b.bindT hw hig y (bndN y - bndN q) (by rw [e1]; have q1 : hcB H w = Clo.sumTo (hI H w) H.g := rfl; have q2 : hI H w i = wsum (hT w) (H.book i).os + hSa H w i := rfl; omega)
                        (by rw [e2]; have q3 : lkB H w i = wsum (lT w) (H.book i).os + lSa H w i := rfl; omega) hbd.1.2 (hbd.2 i hig).2 (fun hpos => ⟨by omega, by
                          have f1 := free_lim gd hw
                          have f2 := free_limG gd hw hig
                          unfold bndT at h5
                          split at h5 <;> omega⟩)
                      rw [e1, e2] at hB
                      have hos : ∀ c : Cal.Od → Int, (∀ z n, c (Cal.Od.at_ z n) = c z) → wsum c ((H.book i).amd j q x.pr x.am).2.os = wsum c (H.book i).os - c q * q.am + c y * y.am := fun c hc => by
                        unfold Cal.Bo.amd at h6 ⊢
                        rw [hy] at h6 ⊢
                        split
                        · next g1 => rw [if_pos g1] at h6; cases h6
                        · next g1 =>
                          rw [if_neg g1] at h6
                          split
                          · exact wsum_set c _ _ _ _ f2
                          · next g2 =>
                            rw [if_neg g2] at h6
                            split
                            · next g3 => rw [if_pos g3] at h6; cases h6
                            · show wsum c ((H.book i).os.eraseIdx j ++ [Cal.Od.at_ y ((H.book i).rem j).nx]) = _
                              rw [wsum_app, wsum_erase c _ _ _ f2]
                              simp only [wsum, hc]
                              have : Cal.Od.am (Cal.Od.at_ y ((H.book i).rem j).nx) = y.am := rfl
                              rw [this]; omega
                      have hod : ∀ z ∈ ((H.book i).amd j q x.pr x.am).2.os, z ∈ (H.book i).os ∨ (z.own = y.own ∧ z.id = y.id) := fun z hz => by
                        unfold Cal.Bo.amd at h6 hz
                        rw [hy] at h6 hz
                        split at hz
                        · exact Or.inl hz
                        · split at hz
                          · rcases List.mem_or_eq_of_mem_set hz with e | e
                            · exact Or.inl e
                            · exact Or.inr ⟨by rw [e], by rw [e]⟩
                          · split at hz
                            · exact Or.inl hz
                            · rcases List.mem_append.1 hz with e | e
                              · exact Or.inl ((List.eraseIdx_sublist ..).subset e)
                              · obtain rfl := List.mem_singleton.1 e
                                exact Or.inr ⟨rfl, rfl⟩
                      refine Bal.book gd bal hig hw _ (nH y (bndN y) - nH q (bndN q)) (nL y (bndN y) - nL q (bndN q)) (fun v => ?_) (fun v => ?_) (bindL_len _ _ _ _ _) hB (fun z hz => ?_)
                      · rw [hos (hT v) (fun _ _ => rfl), hT_is hown, hT_is hyo]
                        split <;> omega
                      · rw [hos (lT v) (fun _ _ => rfl), lT_is hown, lT_is hyo]
                        split <;> omega
                      · rcases hod z hz with e | ⟨e3, e4⟩
                        · exact bal.od i z e
                        · obtain ⟨v, n, g1, g2, g3, g4⟩ := bal.od i q hq
                          exact ⟨v, n, by rw [e3, hyo, ← hown]; exact g1, g2, by rw [e4, hyid]; exact g3, g4⟩
theorem new_hld (s p d : Int) (n w : Nat) : hldM (Clo.Au.new s p d n) w = 0 := by
  have h1 : Clo.wasOf (Clo.Au.new s p d n).ds w = 0 := by unfold Clo.wasOf Clo.Au.new; simp only; rw [Clo.dAt_rep]
  have h2 : Clo.nowOf (Clo.Au.new s p d n).ds w = 0 := by unfold Clo.nowOf Clo.Au.new; simp only; rw [Clo.dAt_rep]
  unfold hldM
  rw [h1, h2, Int.zero_mul, Int.zero_mul]
  rfl
theorem offerR_bal {H : Hs} (gd : Gd H) (bal : Bal H) {w : Nat} (hw : w < H.l.length) {o : Oo} (ho : o.good) (h : (offerR H w o).1 = 0) : Bal (offerR H w o).2 := by
  unfold offerR at h ⊢
  split at h
  · cases h
  · next k1 =>
    rw [if_neg k1]
    split at h
    · next k2 => exact absurd h k2
    · next k2 =>
      rw [if_neg k2]
      split at h
      · cases h
      · next k3 =>
        rw [if_neg k3]
        have k3 := Classical.not_not.1 k3
        obtain ⟨i, hi⟩ := Int.eq_ofNat_of_zero_le (show 0 ≤ o.g by omega)
        rw [hi] at h ⊢
        rw [Int.toNat_natCast] at h ⊢
        have hig : i < H.g := by omega
        obtain ⟨x, hx⟩ : ∃ x, H.ss[i]? = some x := ⟨H.ss[i]'(by rw [gd.ns]; exact hig), by simp⟩
        rw [hx] at h ⊢
        cases x with
        | some x => cases h
        | none =>
          simp only at h ⊢
          split at h
          · cases h
          · next k4 =>
            rw [if_neg k4]
            have hbd := bal.bd gd hw
            have hB := bal.b.bind2 hw hig o.a (by have := (hbd.2 i hig).1; omega) (hbd.2 i hig).2 (fun _ => ⟨by omega, by omega⟩)
            refine Bal.sale gd bal hig hw _ 0 o.a (fun v hv => ?_) (fun v hv => ?_) (bindL_len _ _ _ _ _) (hB.congr (fun v hv => ?_) (fun _ _ _ _ => rfl))
            · rw [hSa_at hx]
              show hldM _ v = 0 + _
              rw [new_hld]
              split <;> rfl
            · rw [lSa_at hx]
              show (if (w : Int) = (v : Int) then o.a else 0) = 0 + _
              by_cases e : v = w
              · rw [if_pos (by rw [e]), if_pos e]; omega
              · rw [if_neg (by omega), if_neg e]; omega
            · unfold up1
              split
              · next e => rw [e]; omega
              · rfl
theorem bid_hld {A : Clo.Au} {who n : Int} {v : Nat} (hv : (v : Int) ≠ who) : hldM (A.bid who n).2 v = hldM A v := by
  unfold Clo.Au.bid
  split
  · rfl
  · split
    · rfl
    · split
      · rfl
      · next h1 h2 h3 =>
        have e : Clo.dAt (A.ds.set who.toNat ⟨Clo.wasOf A.ds who.toNat, n⟩) v = Clo.dAt A.ds v := by
          unfold Clo.dAt
          rw [List.getElem?_set_ne (by omega)]
        have ew : Clo.wasOf (A.ds.set who.toNat ⟨Clo.wasOf A.ds who.toNat, n⟩) v = Clo.wasOf A.ds v := congrArg Clo.Dm.was e
        have en : Clo.nowOf (A.ds.set who.toNat ⟨Clo.wasOf A.ds who.toNat, n⟩) v = Clo.nowOf A.ds v := congrArg Clo.Dm.now e
        unfold hldM
        simp only
        rw [ew, en]
        rfl
theorem bid_sup (A : Clo.Au) (who n : Int) : (A.bid who n).2.supply = A.supply := by
  unfold Clo.Au.bid
  split
  · rfl
  · split
    · rfl
    · split <;> rfl
theorem wantR_bal {H : Hs} (gd : Gd H) (bal : Bal H) {w : Nat} (hw : w < H.l.length) {o : Oo} (ho : o.good) (h : (wantR H w o).1 = 0) : Bal (wantR H w o).2 := by
  unfold wantR at h ⊢
  split at h
  · cases h
  · next k1 =>
    rw [if_neg k1]
    split at h
    · cases h
    · next k2 =>
      rw [if_neg k2]
      obtain ⟨i, hi⟩ := Int.eq_ofNat_of_zero_le (show 0 ≤ o.g by omega)
      rw [hi] at h ⊢
      rw [Int.toNat_natCast] at h ⊢
      have hig : i < H.g := by omega
      obtain ⟨x, hx⟩ : ∃ x, H.ss[i]? = some x := ⟨H.ss[i]'(by rw [gd.ns]; exact hig), by simp⟩
      rw [hx] at h ⊢
      cases x with
      | none => cases h
      | some x =>
        simp only at h ⊢
        split at h
        · cases h
        · next k3 =>
          rw [if_neg k3]
          split at h
          · next k4 => exact absurd h k4
          · next k4 =>
            rw [if_neg k4]
            split at h
            · cases h
            · next k5 =>
              rw [if_neg k5]
              rw [Int.toNat_natCast] at k5 ⊢
              have hbd := bal.bd gd hw
              have hs1 := sum_one (f := hI H w) (k := H.g) (fun j _ => hI_nn gd hw j) i hig
              have hS := hSa_at hx w
              have hInv := (gd.pst i x hx).2.bid (w : Int) o.a
              have hds := (gd.ds i x hx).1
              have hnn := (hld_bd hInv (who := w) (by rw [(bid_keeps x.1 w o.a).2, hds]; exact hw)).2.2.1
              have hwn := wH_nn (gd.bk i) w
              have hB := bal.b.bind1 hw (hldM (x.1.bid w o.a).2 w - hldM x.1 w) (by have q1 : hcB H w = Clo.sumTo (hI H w) H.g := rfl; have q2 : hI H w i = wsum (hT w) (H.book i).os + hSa H w i := rfl; have q3 : hX (some x) w = hldM x.1 w := rfl; omega) hbd.1.2
                (fun hpos => ⟨by omega, by have := free_lim gd hw; omega⟩)
              refine Bal.sale gd bal hig hw _ (hldM (x.1.bid w o.a).2 w - hldM x.1 w) 0 (fun v hv => ?_) (fun v hv => ?_) (bindL_len _ _ _ _ _) (hB.congr (fun _ _ => rfl) (fun v hv j hj => ?_))
              · rw [hSa_at hx]
                show hldM (x.1.bid w o.a).2 v = hldM x.1 v + _
                by_cases e : v = w
                · rw [if_pos e, e]; omega
                · rw [if_neg e, bid_hld (by omega)]; omega
              · rw [lSa_at hx]
                show (if x.2 = (v : Int) then (x.1.bid w o.a).2.supply else 0) = (if x.2 = (v : Int) then x.1.supply else 0) + _
                rw [bid_sup]
                have : (if v = w then (0 : Int) else 0) = 0 := by split <;> rfl
                rw [this]; omega
              · unfold up2
                split
                · next e => rw [e.1, e.2]; omega
                · rfl
end Go.Proofs.YtpekfpfhonechaaGreat
