/- The house: what any request does to its accounts, time and auctions, as data. -/
import Derived.Test.YtgofjheoebabeaaGreatHx44
import Derived.Test.YtgofjheoebabeaaGreatHx45
import Derived.Test.YtgofjheoebabeaaGreatHx46
import Derived.Test.YtgofjheoebabeaaGreatHx40
import Derived.Test.YtgofjheoebabeaaGreatHx30
import Derived.Test.YtgofjheoebabeaaGreatHx09
namespace Go.Proofs.YtgofjheoebabeaaGreat
open Go.RowKit
set_option linter.unusedSimpArgs false
set_option linter.unusedVariables false

/-- The accounts behind a step that neither makes nor takes anything, and marks nobody. -/
structure Kps (l l' : Ks) : Prop where
  len : l'.length = l.length
  tot : ∀ x, Led.IsA x → Led.tot l' x = Led.tot l x
  st : ∀ j, (Led.kAt l' j).n 10 = (Led.kAt l j).n 10
  rp : ∀ j, (Led.kAt l' j).reply = (Led.kAt l j).reply
theorem Kps.refl (l : Ks) : Kps l l := ⟨rfl, fun _ _ => rfl, fun _ => rfl, fun _ => rfl⟩
theorem Kps.trans {a b c : Ks} (h : Kps a b) (k : Kps b c) : Kps a c :=
  ⟨k.len.trans h.len, fun x hx => (k.tot x hx).trans (h.tot x hx), fun j => (k.st j).trans (h.st j), fun j => (k.rp j).trans (h.rp j)⟩
theorem part_ne10 {a h : Nat} (p : Led.Part a h) : a ≠ 10 ∧ h ≠ 10 := by
  rcases p with ⟨rfl, rfl⟩ | ⟨_, _, rfl⟩ <;> omega
theorem partGd {q : Nat} (h : q < 4) : Led.Part (2 + q) (6 + q) := Or.inr ⟨by omega, by omega, by omega⟩
theorem upd_mk {l : Ks} {i f : Nat} {v : Int} (hi : i < l.length) (h10 : f ≠ 10) :
    (∀ j, (Led.kAt (Led.upd l i f v) j).n 10 = (Led.kAt l j).n 10) ∧ ∀ j, (Led.kAt (Led.upd l i f v) j).reply = (Led.kAt l j).reply :=
  ⟨fun j => by rw [Led.upd_at _ _ hi, if_neg (fun e => h10 e.2.symm)], fun j => Led.upd_reply _ _ hi j⟩
theorem upd_kps {l : Ks} {i a f : Nat} {v : Int} (hi : i < l.length) (p : Led.Part a f) : Kps l (Led.upd l i f v) :=
  ⟨Led.upd_len _ _ _ _, fun x hx => by rw [Led.tot_upd _ _ _ hi, if_neg (hx.ne p)]; omega, (upd_mk hi (part_ne10 p).2).1, (upd_mk hi (part_ne10 p).2).2⟩
theorem gate_kps {e : Int} {l : Ks} {r : Int × Ks} (h : e = 0 → Kps l r.2) : Kps l (Led.gate e l r).2 := by
  unfold Led.gate
  split
  · next he => exact h he
  · exact Kps.refl l
theorem keepR_kps {l : Ks} {i a h : Nat} {n : Int} (hi : i < l.length) (p : Led.Part a h) : Kps l (Led.keepR l i a h n).2 := by
  unfold Led.keepR
  split
  · exact Kps.refl l
  · exact upd_kps hi p
theorem looseR_kps {l : Ks} {i a h : Nat} {n : Int} (hi : i < l.length) (p : Led.Part a h) : Kps l (Led.looseR l i h n).2 := by
  unfold Led.looseR
  split
  · exact Kps.refl l
  · exact upd_kps hi p
theorem overR_kps {l : Ks} {i j a h : Nat} {n : Int} (hi : i < l.length) (hj : j < l.length) (p : Led.Part a h) : Kps l (Led.overR l i j a h n).2 := by
  unfold Led.overR
  split
  · exact Kps.refl l
  · have h1 := upd_mk (f := h) (v := (Led.kAt l i).n h - n) hi (part_ne10 p).2
    have hi2 : i < (Led.over1 l i h n).length := by unfold Led.over1; rw [Led.upd_len]; exact hi
    have h2 := upd_mk (f := a) (v := (Led.kAt (Led.over1 l i h n) i).n a - n) hi2 (part_ne10 p).1
    have hj2 : j < (Led.over2 l i a h n).length := by unfold Led.over2 Led.over1; rw [Led.upd_len, Led.upd_len]; exact hj
    have h3 := upd_mk (f := a) (v := (Led.kAt (Led.over2 l i a h n) j).n a + n) hj2 (part_ne10 p).1
    exact ⟨Led.over3_len, fun x hx => Led.over3_tot hi hj hx p, fun k => ((h3.1 k).trans (h2.1 k)).trans (h1.1 k), fun k => ((h3.2 k).trans (h2.2 k)).trans (h1.2 k)⟩
theorem bindL_kps {g : Nat} (hg : g ≤ 4) (l : Ks) (who thing n : Int) : Kps l (bindL g l who thing n) := by
  unfold bindL
  split
  · split
    · refine gate_kps fun e => ?_
      obtain ⟨i, rfl, hi, _⟩ := Led.refE_one e
      exact keepR_kps (by simpa using hi) Led.part0
    · refine gate_kps fun e => ?_
      obtain ⟨i, rfl, hi, _⟩ := Led.refE_one e
      exact looseR_kps (by simpa using hi) Led.part0
  · split
    · refine gate_kps fun e => ?_
      obtain ⟨e2, q, rfl, hq⟩ := Led.refG_ok e
      obtain ⟨i, rfl, hi, _⟩ := Led.refE_one e2
      exact keepR_kps (by simpa using hi) (partGd (by simp; omega))
    · refine gate_kps fun e => ?_
      obtain ⟨e2, q, rfl, hq⟩ := Led.refG_ok e
      obtain ⟨i, rfl, hi, _⟩ := Led.refE_one e2
      exact looseR_kps (by simpa using hi) (partGd (by simp; omega))
theorem tradeL_kps {g : Nat} (hg : g ≤ 4) (l : Ks) (good seller buyer n price : Int) : Kps l (tradeL g l good seller buyer n price) := by
  have h1 : Kps l (tradeL1 l seller buyer n price) := by
    unfold tradeL1
    refine gate_kps fun e => ?_
    obtain ⟨i, j, rfl, rfl, hi, hj, _⟩ := Led.refE_two e
    exact overR_kps (by simpa using hi) (by simpa using hj) Led.part0
  refine h1.trans ?_
  unfold tradeL
  refine gate_kps fun e => ?_
  obtain ⟨e2, q, rfl, hq⟩ := Led.refG_ok e
  obtain ⟨i, j, rfl, rfl, hi, hj, _⟩ := Led.refE_two e2
  exact overR_kps (by simpa using hi) (by simpa using hj) (partGd (by simp; omega))
theorem setl_kps {g : Nat} (hg : g ≤ 4) (good price : Int) : ∀ (k : Nat) (l : Ks) (b s : List Cal.Fi), Kps l (setl g good price k l b s)
  | 0, l, b, s => Kps.refl l
  | k + 1, l, [], s => Kps.refl l
  | k + 1, l, b :: bs, [] => Kps.refl l
  | k + 1, l, b :: bs, s :: ss => (tradeL_kps hg _ _ _ _ _ _).trans (setl_kps hg good price k _ _ _)
theorem clrS_kps {g : Nat} (hg : g ≤ 4) (l : Ks) (B : Cal.Bo) : ∀ k, k ≤ B.fl.length → Kps l (clrS g l B k).1
  | 0, _ => Kps.refl l
  | k + 1, h => by
    have h1 := clrS_kps hg l B k (by omega)
    rw [clrS_succ g l B k (by omega)]
    unfold stepF
    split
    · refine h1.trans ?_
      dsimp only
      exact bindL_kps hg _ _ _ _
    · exact h1
theorem clrL_kps {g : Nat} (hg : g ≤ 4) (i : Int) (l : Ks) (B : Cal.Bo) : Kps l (clrL g i l B) := by
  unfold clrL
  exact (clrS_kps hg l B _ (Nat.le_refl _)).trans (setl_kps hg _ _ _ _ _ _)
theorem cloS_kps {g : Nat} (hg : g ≤ 4) (good seller : Int) (pr : Int) (gs hd : Nat → Int) (l : Ks) : ∀ k, Kps l (cloS g good seller pr gs hd l k)
  | 0 => Kps.refl l
  | k + 1 => ((cloS_kps hg good seller pr gs hd l k).trans (tradeL_kps hg _ _ _ _ _ _)).trans (bindL_kps hg _ _ _ _)
theorem closeL_kps {g : Nat} (hg : g ≤ 4) (l : Ks) (i : Nat) (x : Clo.Au × Int) (hd : Nat → Int) : Kps l (closeL g l i x hd) :=
  (cloS_kps hg _ _ _ _ _ _ _).trans (bindL_kps hg _ _ _ _)
/-- A house behind a step that neither makes nor takes anything, marks nobody and leaves the time. -/
structure Hps (H H' : Hs) : Prop where
  g : H'.g = H.g
  now : H'.now = H.now
  l : Kps H.l H'.l
  nms : H'.ms.length = H.ms.length
theorem Hps.refl (H : Hs) : Hps H H := ⟨rfl, rfl, Kps.refl _, rfl⟩
theorem Hps.trans {A B C : Hs} (h : Hps A B) (k : Hps B C) : Hps A C := ⟨k.g.trans h.g, k.now.trans h.now, h.l.trans k.l, k.nms.trans h.nms⟩
theorem cutR_hps {H : Hs} (hg : H.g ≤ 4) (i who : Nat) (held : Int) : Hps H (cutR H i who held) := by
  unfold cutR
  split
  · refine ⟨rfl, rfl, ?_, rfl⟩
    dsimp only
    exact bindL_kps hg _ _ _ _
  · exact Hps.refl H
theorem cutN_hps {H : Hs} (hg : H.g ≤ 4) (i : Nat) (hd : Nat → Int) : ∀ k, Hps H (cutN H i hd k)
  | 0 => Hps.refl H
  | k + 1 => by
    have h := cutN_hps hg i hd k
    exact h.trans (cutR_hps (by rw [h.g]; exact hg) i k _)
theorem endR_hps {H : Hs} (hg : H.g ≤ 4) (i : Nat) : Hps H (endR H i) := by
  unfold endR
  split
  · next x _ =>
    split
    · refine ⟨rfl, rfl, ?_, rfl⟩
      dsimp only
      exact closeL_kps hg _ _ _ _
    · have h := cutN_hps (H := { H with ss := H.ss.set i (some (x.1.next.2.2, x.2)) }) hg i (hldM x.1) x.1.ds.length
      exact ⟨h.g, h.now, h.l, h.nms⟩
  · exact Hps.refl H
theorem clr1_hps {H : Hs} (hg : H.g ≤ 4) (i : Nat) : Hps H (clr1 H i) := by
  refine ⟨rfl, rfl, ?_, ?_⟩
  · unfold clr1
    dsimp only
    exact clrL_kps hg _ _ _
  · unfold clr1
    dsimp only
    exact List.length_set
theorem tick1_hps {H : Hs} (hg : H.g ≤ 4) (i : Nat) : Hps H (tick1 endR H i) := by
  have h := clr1_hps hg i
  unfold tick1
  split
  · exact h.trans (endR_hps (by rw [h.g]; exact hg) i)
  · exact h
theorem tickN_hps {H : Hs} (hg : H.g ≤ 4) : ∀ k, Hps H (tickN endR H k)
  | 0 => Hps.refl H
  | k + 1 => by
    have h := tickN_hps hg k
    exact h.trans (tick1_hps (by rw [h.g]; exact hg) k)
/-- The time goes on by one, and nothing is made or taken. -/
theorem tickR_hps {H : Hs} (hg : H.g ≤ 4) : (tickR endR H).1 = 0 ∧ Hps { H with now := H.now + 1 } (tickR endR H).2 ∧ H.now ≠ 9007199254740992 ∨ (tickR endR H).1 = 2 ∧ (tickR endR H).2 = H := by
  unfold tickR
  split
  · exact Or.inr ⟨rfl, rfl⟩
  · next h => exact Or.inl ⟨rfl, tickN_hps (H := { H with now := H.now + 1 }) hg _, h⟩

/-- A code. -/
def cd (n : Int) : Prop := 0 ≤ n ∧ n ≤ 1000
theorem ticks_cd (x : Nat) (k : Int) : cd (Quo.ticksR x k).2 := by
  unfold Quo.ticksR Quo.tkR cd
  repeat' split
  all_goals simp
theorem refE_cd (c : Nat) (n : Int) (m : List Int) : cd (Led.refE c n m) := by
  unfold Led.refE cd
  repeat' split
  all_goals omega
theorem refG_cd (g c : Nat) (good n : Int) (m : List Int) : cd (Led.refG g c good n m) := by
  have h := refE_cd c n m
  unfold Led.refG
  repeat' split
  all_goals first | exact h | (unfold cd; omega)
theorem gate_cd {e : Int} {l : Ks} {r : Int × Ks} (h : cd e) (k : cd r.1) : cd (Led.gate e l r).1 := by
  unfold Led.gate
  split
  · exact k
  · exact h
theorem inR_cd (l : Ks) (i a : Nat) (n : Int) : cd (Led.inR l i a n).1 := by
  unfold Led.inR; split <;> (unfold cd; simp)
theorem outR_cd (l : Ks) (i a h : Nat) (n : Int) : cd (Led.outR l i a h n).1 := by
  unfold Led.outR; split <;> (unfold cd; simp)
theorem ordR_cd (g : Nat) (who : Int) (o : Oo) : cd (ordR g who o).2 := by
  have h := ticks_cd o.pr 6
  unfold ordR
  repeat' split
  all_goals first | exact h | (unfold cd; simp)
theorem boput_cd (B : Cal.Bo) (x : Cal.Od) : cd (B.put x).1 := by
  unfold Cal.Bo.put
  repeat' split
  all_goals (unfold cd; simp)
theorem boamend_cd (B : Cal.Bo) (x y pr am : Int) : cd (B.amend x y pr am).1 := by
  unfold Cal.Bo.amend Cal.Bo.amd
  repeat' split
  all_goals (unfold cd; simp)
theorem aubid_cd (A : Clo.Au) (who n : Int) : cd (A.bid who n).1 := by
  unfold Clo.Au.bid
  repeat' split
  all_goals (unfold cd; simp)
theorem putR_cd (H : Hs) (who : Int) (o : Oo) : cd (putR H who o).1 := by
  unfold putR
  repeat' split
  all_goals first | exact ordR_cd _ _ _ | exact boput_cd _ _ | (unfold cd; simp)
theorem amendR_cd (H : Hs) (who : Int) (o : Oo) : cd (amendR H who o).1 := by
  unfold amendR amdR
  repeat' split
  all_goals first | exact ordR_cd _ _ _ | exact boamend_cd _ _ _ _ _ | (unfold cd; simp)
theorem cancelR_cd (H : Hs) (who : Int) (o : Oo) : cd (cancelR H who o).1 := by
  unfold cancelR
  repeat' split
  all_goals (unfold cd; simp)
theorem offerR_cd (H : Hs) (who : Int) (o : Oo) : cd (offerR H who o).1 := by
  unfold offerR
  repeat' split
  all_goals first | exact ticks_cd _ _ | (unfold cd; simp)
theorem wantR_cd (H : Hs) (who : Int) (o : Oo) : cd (wantR H who o).1 := by
  unfold wantR
  repeat' split
  all_goals first | exact aubid_cd _ _ _ | (unfold cd; simp)
theorem tickR_cd (H : Hs) : cd (tickR endR H).1 := by
  unfold tickR
  split <;> (unfold cd; simp)

/-- What a request of a kind does. -/
def deedR (H : Hs) (who : Int) (o : Oo) : Int × Hs :=
  if o.k = 1 then tickR endR H
  else if o.k = 2 then accH payR H who o
  else if o.k = 3 then accH takeR H who o
  else if o.k = 4 then accH storeR H who o
  else if o.k = 5 then accH fetchR H who o
  else if o.k = 6 then offerR H who o
  else if o.k = 7 then wantR H who o
  else if o.k = 8 then putR H who o
  else if o.k = 9 then amendR H who o
  else if o.k = 10 then cancelR H who o
  else (90, H)
theorem deedR_cd (H : Hs) (who : Int) (o : Oo) : cd (deedR H who o).1 := by
  unfold deedR
  repeat' split
  · exact tickR_cd _
  · exact gate_cd (refE_cd _ _ _) (inR_cd _ _ _ _)
  · exact gate_cd (refE_cd _ _ _) (outR_cd _ _ _ _ _)
  · exact gate_cd (refG_cd _ _ _ _ _) (inR_cd _ _ _ _)
  · exact gate_cd (refG_cd _ _ _ _ _) (outR_cd _ _ _ _ _)
  · exact offerR_cd _ _ _
  · exact wantR_cd _ _ _
  · exact putR_cd _ _ _
  · exact amendR_cd _ _ _
  · exact cancelR_cd _ _ _
  · unfold cd; simp

theorem putR_hps {H : Hs} (hg : H.g ≤ 4) (who : Int) (o : Oo) : Hps H (putR H who o).2 := by
  unfold putR
  repeat' split
  all_goals first | exact Hps.refl H | (refine ⟨rfl, rfl, ?_, ?_⟩ <;> dsimp only <;> first | exact bindL_kps hg _ _ _ _ | exact List.length_set)
theorem amendR_hps {H : Hs} (hg : H.g ≤ 4) (who : Int) (o : Oo) : Hps H (amendR H who o).2 := by
  unfold amendR amdR
  repeat' split
  all_goals first | exact Hps.refl H | (refine ⟨rfl, rfl, ?_, ?_⟩ <;> dsimp only <;> first | exact bindL_kps hg _ _ _ _ | exact List.length_set)
theorem cancelR_hps {H : Hs} (hg : H.g ≤ 4) (who : Int) (o : Oo) : Hps H (cancelR H who o).2 := by
  unfold cancelR
  repeat' split
  all_goals first | exact Hps.refl H | (refine ⟨rfl, rfl, ?_, ?_⟩ <;> dsimp only <;> first | exact bindL_kps hg _ _ _ _ | exact List.length_set)
theorem offerR_hps {H : Hs} (hg : H.g ≤ 4) (who : Int) (o : Oo) : Hps H (offerR H who o).2 := by
  unfold offerR
  repeat' split
  all_goals first | exact Hps.refl H | (refine ⟨rfl, rfl, ?_, rfl⟩; dsimp only; exact bindL_kps hg _ _ _ _)
theorem wantR_hps {H : Hs} (hg : H.g ≤ 4) (who : Int) (o : Oo) : Hps H (wantR H who o).2 := by
  unfold wantR
  repeat' split
  all_goals first | exact Hps.refl H | (refine ⟨rfl, rfl, ?_, rfl⟩; dsimp only; first | exact bindL_kps hg _ _ _ _ | exact Kps.refl _)

/-- The accounts when so much more of a kind is there. -/
structure Gtn (l l' : Ks) (x0 : Nat) (n : Int) : Prop where
  len : l'.length = l.length
  tot : ∀ x, Led.IsA x → Led.tot l' x = Led.tot l x + if x = x0 then n else 0
  st : ∀ j, (Led.kAt l' j).n 10 = (Led.kAt l j).n 10
  rp : ∀ j, (Led.kAt l' j).reply = (Led.kAt l j).reply
theorem inR_gtn {l : Ks} {i a h : Nat} {n : Int} (hi : i < l.length) (p : Led.Part a h) : (Led.inR l i a n).1 = 0 ∧ Gtn l (Led.inR l i a n).2 a n ∨ ¬ (Led.inR l i a n).1 = 0 ∧ (Led.inR l i a n).2 = l := by
  by_cases e : (Led.inR l i a n).1 = 0
  · refine Or.inl ⟨e, inR_len, fun x hx => Led.sum_in hi e, ?_, ?_⟩
    · unfold Led.inR; split
      · exact fun j => rfl
      · exact (upd_mk hi (part_ne10 p).1).1
    · unfold Led.inR; split
      · exact fun j => rfl
      · exact (upd_mk hi (part_ne10 p).1).2
  · exact Or.inr ⟨e, Led.if_not e⟩
theorem outR_gtn {l : Ks} {i a h : Nat} {n : Int} (hi : i < l.length) (p : Led.Part a h) : (Led.outR l i a h n).1 = 0 ∧ Gtn l (Led.outR l i a h n).2 a (-n) ∨ ¬ (Led.outR l i a h n).1 = 0 ∧ (Led.outR l i a h n).2 = l := by
  by_cases e : (Led.outR l i a h n).1 = 0
  · refine Or.inl ⟨e, outR_len, fun x hx => Led.sum_out hi e, ?_, ?_⟩
    · unfold Led.outR; split
      · exact fun j => rfl
      · exact (upd_mk hi (part_ne10 p).1).1
    · unfold Led.outR; split
      · exact fun j => rfl
      · exact (upd_mk hi (part_ne10 p).1).2
  · exact Or.inr ⟨e, Led.if_not e⟩
theorem gate_gtn {e : Int} {l : Ks} {r : Int × Ks} {a : Nat} {n : Int} (h : e = 0 → r.1 = 0 ∧ Gtn l r.2 a n ∨ ¬ r.1 = 0 ∧ r.2 = l) : (Led.gate e l r).1 = 0 ∧ Gtn l (Led.gate e l r).2 a n ∨ ¬ (Led.gate e l r).1 = 0 ∧ (Led.gate e l r).2 = l := by
  unfold Led.gate
  split
  · next he => exact h he
  · next he => exact Or.inr ⟨he, rfl⟩
/-- What comes from outside, or goes there: of which kind. -/
def outK (o : Oo) : Nat := if o.k = 4 ∨ o.k = 5 then 2 + o.g.toNat else 0
def outN (o : Oo) : Int := if o.k = 2 ∨ o.k = 4 then o.a else if o.k = 3 ∨ o.k = 5 then -o.a else 0
theorem pay_gtn (g : Nat) (l : Ks) (who : Int) (o : Oo) : (payR g l who o).1 = 0 ∧ Gtn l (payR g l who o).2 0 o.a ∨ ¬ (payR g l who o).1 = 0 ∧ (payR g l who o).2 = l := by
  refine gate_gtn fun e => ?_
  obtain ⟨i, rfl, hi, _⟩ := Led.refE_one e
  exact inR_gtn (by simpa using hi) Led.part0
theorem take_gtn (g : Nat) (l : Ks) (who : Int) (o : Oo) : (takeR g l who o).1 = 0 ∧ Gtn l (takeR g l who o).2 0 (-o.a) ∨ ¬ (takeR g l who o).1 = 0 ∧ (takeR g l who o).2 = l := by
  refine gate_gtn fun e => ?_
  obtain ⟨i, rfl, hi, _⟩ := Led.refE_one e
  exact outR_gtn (by simpa using hi) Led.part0
theorem store_gtn {g : Nat} (hg : g ≤ 4) (l : Ks) (who : Int) (o : Oo) : (storeR g l who o).1 = 0 ∧ Gtn l (storeR g l who o).2 (2 + o.g.toNat) o.a ∨ ¬ (storeR g l who o).1 = 0 ∧ (storeR g l who o).2 = l := by
  refine gate_gtn fun e => ?_
  obtain ⟨e, q, hq, hqg⟩ := Led.refG_ok e
  obtain ⟨i, rfl, hi, _⟩ := Led.refE_one e
  rw [hq]
  exact inR_gtn (by simpa using hi) (partGd (by simp; omega))
theorem fetch_gtn {g : Nat} (hg : g ≤ 4) (l : Ks) (who : Int) (o : Oo) : (fetchR g l who o).1 = 0 ∧ Gtn l (fetchR g l who o).2 (2 + o.g.toNat) (-o.a) ∨ ¬ (fetchR g l who o).1 = 0 ∧ (fetchR g l who o).2 = l := by
  refine gate_gtn fun e => ?_
  obtain ⟨e, q, hq, hqg⟩ := Led.refG_ok e
  obtain ⟨i, rfl, hi, _⟩ := Led.refE_one e
  rw [hq]
  exact outR_gtn (by simpa using hi) (partGd (by simp; omega))
theorem Kps.gtn {l l' : Ks} (h : Kps l l') (x : Nat) : Gtn l l' x 0 := ⟨h.len, fun y hy => by rw [h.tot y hy]; split <;> omega, h.st, h.rp⟩
theorem Hps.gtn {H H' : Hs} (h : Hps H H') : Gtn H.l H'.l 0 0 := h.l.gtn 0
end Go.Proofs.YtgofjheoebabeaaGreat
