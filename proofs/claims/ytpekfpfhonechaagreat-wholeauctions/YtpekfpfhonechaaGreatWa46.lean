/- The house: what any request does to its accounts, time and auctions, as data. -/
import Derived.Test.YtpekfpfhonechaaGreatWa43
import Derived.Test.YtpekfpfhonechaaGreatWa44
import Derived.Test.YtpekfpfhonechaaGreatWa45
import Derived.Test.YtpekfpfhonechaaGreatWa41
import Derived.Test.YtpekfpfhonechaaGreatWa29
import Derived.Test.YtpekfpfhonechaaGreatWa08
import Derived.Test.YtpekfpfhonechaaGreatWa38
namespace Go.Proofs.YtpekfpfhonechaaGreat
open Go.RowKit
set_option linter.unusedSimpArgs false
set_option linter.unusedVariables false

/-- The accounts behind a step that neither makes nor takes anything, and marks nobody. -/
structure Kps (l l' : Ks) : Prop where
  len : l'.length = l.length
  tot : ∀ x, Led.IsA x → Led.tot l' x = Led.tot l x
  st : ∀ j, (Led.kAt l' j).n 10 = (Led.kAt l j).n 10
  rp : ∀ j, (Led.kAt l' j).reply = (Led.kAt l j).reply
theorem Kps.refl (l : Ks) : Kps l l := ⟨rfl, fun _ _ => rfl, fun _ => rfl, fun _ => rfl⟩
theorem Kps.trans {a b c : Ks} (h : Kps a b) (k : Kps b c) : Kps a c :=
  ⟨k.len.trans h.len, fun x hx => (k.tot x hx).trans (h.tot x hx), fun j => (k.st j).trans (h.st j), fun j => (k.rp j).trans (h.rp j)⟩
theorem part_ne10 {a h : Nat} (p : Led.Part a h) : a ≠ 10 ∧ h ≠ 10 := by
  rcases p with ⟨rfl, rfl⟩ | ⟨_, _, rfl⟩ <;> omega
theorem partGd {q : Nat} (h : q < 4) : Led.Part (2 + q) (6 + q) := Or.inr ⟨by omega, by omega, by omega⟩
theorem upd_mk {l : Ks} {i f : Nat} {v : Int} (hi : i < l.length) (h10 : f ≠ 10) :
    (∀ j, (Led.kAt (Led.upd l i f v) j).n 10 = (Led.kAt l j).n 10) ∧ ∀ j, (Led.kAt (Led.upd l i f v) j).reply = (Led.kAt l j).reply :=
  ⟨fun j => by rw [Led.upd_at _ _ hi, if_neg (fun e => h10 e.2.symm)], fun j => Led.upd_reply _ _ hi j⟩
theorem upd_kps {l : Ks} {i a f : Nat} {v : Int} (hi : i < l.length) (p : Led.Part a f) : Kps l (Led.upd l i f v) :=
  ⟨Led.upd_len _ _ _ _, fun x hx => by rw [Led.tot_upd _ _ _ hi, if_neg (hx.ne p)]; omega, (upd_mk hi (part_ne10 p).2).1, (upd_mk hi (part_ne10 p).2).2⟩
theorem gate_kps {e : Int} {l : Ks} {r : Int × Ks} (h : e = 0 → Kps l r.2) : Kps l (Led.gate e l r).2 := by
  unfold Led.gate
  split
  · next he => exact h he
  · exact Kps.refl l
theorem keepR_kps {l : Ks} {i a h : Nat} {n : Int} (hi : i < l.length) (p : Led.Part a h) : Kps l (Led.keepR l i a h n).2 := by
  unfold Led.keepR
  split
  · exact Kps.refl l
  · exact upd_kps hi p
theorem looseR_kps {l : Ks} {i a h : Nat} {n : Int} (hi : i < l.length) (p : Led.Part a h) : Kps l (Led.looseR l i h n).2 := by
  unfold Led.looseR
  split
  · exact Kps.refl l
  · exact upd_kps hi p
theorem overR_kps {l : Ks} {i j a h : Nat} {n : Int} (hi : i < l.length) (hj : j < l.length) (p : Led.Part a h) : Kps l (Led.overR l i j a h n).2 := by
  unfold Led.overR
  split
  · exact Kps.refl l
  · have h1 := upd_mk (f := h) (v := (Led.kAt l i).n h - n) hi (part_ne10 p).2
    have hi2 : i < (Led.over1 l i h n).length := by unfold Led.over1; rw [Led.upd_len]; exact hi
    have h2 := upd_mk (f := a) (v := (Led.kAt (Led.over1 l i h n) i).n a - n) hi2 (part_ne10 p).1
    have hj2 : j < (Led.over2 l i a h n).length := by unfold Led.over2 Led.over1; rw [Led.upd_len, Led.upd_len]; exact hj
    have h3 := upd_mk (f := a) (v := (Led.kAt (Led.over2 l i a h n) j).n a + n) hj2 (part_ne10 p).1
    exact ⟨Led.over3_len, fun x hx => Led.over3_tot hi hj hx p, fun k => ((h3.1 k).trans (h2.1 k)).trans (h1.1 k), fun k => ((h3.2 k).trans (h2.2 k)).trans (h1.2 k)⟩
theorem bindL_kps {g : Nat} (hg : g ≤ 4) (l : Ks) (who thing n : Int) : Kps l (bindL g l who thing n) := by
  unfold bindL
  split
  · split
    · refine gate_kps fun e => ?_
      obtain ⟨i, rfl, hi, _⟩ := Led.refE_one e
      exact keepR_kps (by simpa using hi) Led.part0
    · refine gate_kps fun e => ?_
      obtain ⟨i, rfl, hi, _⟩ := Led.refE_one e
      exact looseR_kps (by simpa using hi) Led.part0
  · split
    · refine gate_kps fun e => ?_
      obtain ⟨e2, q, rfl, hq⟩ := Led.refG_ok e
      obtain ⟨i, rfl, hi, _⟩ := Led.refE_one e2
      exact keepR_kps (by simpa using hi) (partGd (by simp; omega))
    · refine gate_kps fun e => ?_
      obtain ⟨e2, q, rfl, hq⟩ := Led.refG_ok e
      obtain ⟨i, rfl, hi, _⟩ := Led.refE_one e2
      exact looseR_kps (by simpa using hi) (partGd (by simp; omega))
theorem tradeL_kps {g : Nat} (hg : g ≤ 4) (l : Ks) (good seller buyer n price : Int) : Kps l (tradeL g l good seller buyer n price) := by
  have h1 : Kps l (tradeL1 l seller buyer n price) := by
    unfold tradeL1
    refine gate_kps fun e => ?_
    obtain ⟨i, j, rfl, rfl, hi, hj, _⟩ := Led.refE_two e
    exact overR_kps (by simpa using hi) (by simpa using hj) Led.part0
  refine h1.trans ?_
  unfold tradeL
  refine gate_kps fun e => ?_
  obtain ⟨e2, q, rfl, hq⟩ := Led.refG_ok e
  obtain ⟨i, j, rfl, rfl, hi, hj, _⟩ := Led.refE_two e2
  exact overR_kps (by simpa using hi) (by simpa using hj) (partGd (by simp; omega))
theorem setl_kps {g : Nat} (hg : g ≤ 4) (good price : Int) : ∀ (k : Nat) (l : Ks) (b s : List Cal.Fi), Kps l (setl g good price k l b s)
  | 0, l, b, s => Kps.refl l
  | k + 1, l, [], s => Kps.refl l
  | k + 1, l, b :: bs, [] => Kps.refl l
  | k + 1, l, b :: bs, s :: ss => (tradeL_kps hg _ _ _ _ _ _).trans (setl_kps hg good price k _ _ _)
theorem clrS_kps {g : Nat} (hg : g ≤ 4) (l : Ks) (B : Cal.Bo) : ∀ k, k ≤ B.fl.length → Kps l (clrS g l B k).1
  | 0, _ => Kps.refl l
  | k + 1, h => by
    have h1 := clrS_kps hg l B k (by omega)
    rw [clrS_succ g l B k (by omega)]
    unfold stepF
    split
    · refine h1.trans ?_
      dsimp only
      exact bindL_kps hg _ _ _ _
    · exact h1
theorem clrL_kps {g : Nat} (hg : g ≤ 4) (i : Int) (l : Ks) (B : Cal.Bo) : Kps l (clrL g i l B) := by
  unfold clrL
  exact (clrS_kps hg l B _ (Nat.le_refl _)).trans (setl_kps hg _ _ _ _ _ _)
theorem cloS_kps {g : Nat} (hg : g ≤ 4) (good seller : Int) (pr : Int) (gs hd : Nat → Int) (l : Ks) : ∀ k, Kps l (cloS g good seller pr gs hd l k)
  | 0 => Kps.refl l
  | k + 1 => ((cloS_kps hg good seller pr gs hd l k).trans (tradeL_kps hg _ _ _ _ _ _)).trans (bindL_kps hg _ _ _ _)
theorem closeL_kps {g : Nat} (hg : g ≤ 4) (l : Ks) (i : Nat) (x : Clo.Au × Int) (hd : Nat → Int) : Kps l (closeL g l i x hd) :=
  (cloS_kps hg _ _ _ _ _ _ _).trans (bindL_kps hg _ _ _ _)
/-- A house behind a step that neither makes nor takes anything, marks nobody and leaves the time. -/
structure Hps (H H' : Hs) : Prop where
  g : H'.g = H.g
  now : H'.now = H.now
  l : Kps H.l H'.l
  nms : H'.ms.length = H.ms.length
theorem Hps.refl (H : Hs) : Hps H H := ⟨rfl, rfl, Kps.refl _, rfl⟩
theorem Hps.trans {A B C : Hs} (h : Hps A B) (k : Hps B C) : Hps A C := ⟨k.g.trans h.g, k.now.trans h.now, h.l.trans k.l, k.nms.trans h.nms⟩
theorem cutR_hps {H : Hs} (hg : H.g ≤ 4) (i who : Nat) (held : Int) : Hps H (cutR H i who held) := by
  unfold cutR
  split
  · refine ⟨rfl, rfl, ?_, rfl⟩
    dsimp only
    exact bindL_kps hg _ _ _ _
  · exact Hps.refl H
theorem cutN_hps {H : Hs} (hg : H.g ≤ 4) (i : Nat) (hd : Nat → Int) : ∀ k, Hps H (cutN H i hd k)
  | 0 => Hps.refl H
  | k + 1 => by
    have h := cutN_hps hg i hd k
    exact h.trans (cutR_hps (by rw [h.g]; exact hg) i k _)
theorem endR_hps {H : Hs} (hg : H.g ≤ 4) (i : Nat) : Hps H (endR H i) := by
  unfold endR
  split
  · next x _ =>
    split
    · refine ⟨rfl, rfl, ?_, rfl⟩
      dsimp only
      exact closeL_kps hg _ _ _ _
    · have h := cutN_hps (H := { H with ss := H.ss.set i (some (x.1.next.2.2, x.2)) }) hg i (hldM x.1) x.1.ds.length
      exact ⟨h.g, h.now, h.l, h.nms⟩
  · exact Hps.refl H
theorem clr1_hps {H : Hs} (hg : H.g ≤ 4) (i : Nat) : Hps H (clr1 H i) := by
  refine ⟨rfl, rfl, ?_, ?_⟩
  · unfold clr1
    dsimp only
    exact clrL_kps hg _ _ _
  · unfold clr1
    dsimp only
    exact List.length_set
theorem tick1_hps {H : Hs} (hg : H.g ≤ 4) (i : Nat) : Hps H (tick1 endR H i) := by
  have h := clr1_hps hg i
  unfold tick1
  split
  · exact h.trans (endR_hps (by rw [h.g]; exact hg) i)
  · exact h
theorem tickN_hps {H : Hs} (hg : H.g ≤ 4) : ∀ k, Hps H (tickN endR H k)
  | 0 => Hps.refl H
  | k + 1 => by
    have h := tickN_hps hg k
    exact h.trans (tick1_hps (by rw [h.g]; exact hg) k)
/-- The time goes on by one, and nothing is made or taken. -/
theorem tickR_hps {H : Hs} (hg : H.g ≤ 4) : (tickR endR H).1 = 0 ∧ Hps { H with now := H.now + 1 } (tickR endR H).2 ∧ H.now ≠ 9007199254740992 ∨ (tickR endR H).1 = 2 ∧ (tickR endR H).2 = H := by
  unfold tickR
  split
  · exact Or.inr ⟨rfl, rfl⟩
  · next h => exact Or.inl ⟨rfl, tickN_hps (H := { H with now := H.now + 1 }) hg _, h⟩

/-- A code. -/
def cd (n : Int) : Prop := 0 ≤ n ∧ n ≤ 1000
theorem ticks_cd (x : Nat) (k : Int) : cd (Quo.ticksR x k).2 := by
  unfold Quo.ticksR Quo.tkR cd
  repeat' split
  all_goals simp
theorem refE_cd (c : Nat) (n : Int) (m : List Int) : cd (Led.refE c n m) := by
  unfold Led.refE cd
  repeat' split
  all_goals omega
theorem refG_cd (g c : Nat) (good n : Int) (m : List Int) : cd (Led.refG g c good n m) := by
  have h := refE_cd c n m
  unfold Led.refG
  repeat' split
  all_goals first | exact h | (unfold cd; omega)
theorem gate_cd {e : Int} {l : Ks} {r : Int × Ks} (h : cd e) (k : cd r.1) : cd (Led.gate e l r).1 := by
  unfold Led.gate
  split
  · exact k
  · exact h
theorem inR_cd (l : Ks) (i a : Nat) (n : Int) : cd (Led.inR l i a n).1 := by
  unfold Led.inR; split <;> (unfold cd; simp)
theorem outR_cd (l : Ks) (i a h : Nat) (n : Int) : cd (Led.outR l i a h n).1 := by
  unfold Led.outR; split <;> (unfold cd; simp)
theorem ordR_cd (g : Nat) (who : Int) (o : Oo) : cd (ordR g who o).2 := by
  have h := ticks_cd o.pr 6
  unfold ordR
  repeat' split
  all_goals first | exact h | (unfold cd; simp)
theorem boput_cd (B : Cal.Bo) (x : Cal.Od) : cd (B.put x).1 := by
  unfold Cal.Bo.put
  repeat' split
  all_goals (unfold cd; simp)
theorem boamend_cd (B : Cal.Bo) (x y pr am : Int) : cd (B.amend x y pr am).1 := by
  unfold Cal.Bo.amend Cal.Bo.amd
  repeat' split
  all_goals (unfold cd; simp)
theorem aubid_cd (A : Clo.Au) (who n : Int) : cd (A.bid who n).1 := by
  unfold Clo.Au.bid
  repeat' split
  all_goals (unfold cd; simp)
theorem putR_cd (H : Hs) (who : Int) (o : Oo) : cd (putR H who o).1 := by
  unfold putR
  repeat' split
  all_goals first | exact ordR_cd _ _ _ | exact boput_cd _ _ | (unfold cd; simp)
theorem amendR_cd (H : Hs) (who : Int) (o : Oo) : cd (amendR H who o).1 := by
  unfold amendR amdR
  repeat' split
  all_goals first | exact ordR_cd _ _ _ | exact boamend_cd _ _ _ _ _ | (unfold cd; simp)
theorem cancelR_cd (H : Hs) (who : Int) (o : Oo) : cd (cancelR H who o).1 := by
  unfold cancelR
  repeat' split
  all_goals (unfold cd; simp)
theorem offerR_cd (H : Hs) (who : Int) (o : Oo) : cd (offerR H who o).1 := by
  unfold offerR
  repeat' split
  all_goals first | exact ticks_cd _ _ | (unfold cd; simp)
theorem wantR_cd (H : Hs) (who : Int) (o : Oo) : cd (wantR H who o).1 := by
  unfold wantR
  repeat' split
  all_goals first | exact aubid_cd _ _ _ | (unfold cd; simp)
theorem tickR_cd (H : Hs) : cd (tickR endR H).1 := by
  unfold tickR
  split <;> (unfold cd; simp)

/-- What a request of a kind does. -/
def deedR (H : Hs) (who : Int) (o : Oo) : Int × Hs :=
  if o.k = 1 then tickR endR H
  else if o.k = 2 then accH payR H who o
  else if o.k = 3 then accH takeR H who o
  else if o.k = 4 then accH storeR H who o
  else if o.k = 5 then accH fetchR H who o
  else if o.k = 6 then offerR H who o
  else if o.k = 7 then wantR H who o
  else if o.k = 8 then putR H who o
  else if o.k = 9 then amendR H who o
  else if o.k = 10 then cancelR H who o
  else (90, H)
theorem deedR_cd (H : Hs) (who : Int) (o : Oo) : cd (deedR H who o).1 := by
  unfold deedR
  repeat' split
  · exact tickR_cd _
  · exact gate_cd (refE_cd _ _ _) (inR_cd _ _ _ _)
  · exact gate_cd (refE_cd _ _ _) (outR_cd _ _ _ _ _)
  · exact gate_cd (refG_cd _ _ _ _ _) (inR_cd _ _ _ _)
  · exact gate_cd (refG_cd _ _ _ _ _) (outR_cd _ _ _ _ _)
  · exact offerR_cd _ _ _
  · exact wantR_cd _ _ _
  · exact putR_cd _ _ _
  · exact amendR_cd _ _ _
  · exact cancelR_cd _ _ _
  · unfold cd; simp

theorem putR_hps {H : Hs} (hg : H.g ≤ 4) (who : Int) (o : Oo) : Hps H (putR H who o).2 := by
  unfold putR
  repeat' split
  all_goals first | exact Hps.refl H | (refine ⟨rfl, rfl, ?_, ?_⟩ <;> dsimp only <;> first | exact bindL_kps hg _ _ _ _ | exact List.length_set)
theorem amendR_hps {H : Hs} (hg : H.g ≤ 4) (who : Int) (o : Oo) : Hps H (amendR H who o).2 := by
  unfold amendR amdR
  repeat' split
  all_goals first | exact Hps.refl H | (refine ⟨rfl, rfl, ?_, ?_⟩ <;> dsimp only <;> first | exact bindL_kps hg _ _ _ _ | exact List.length_set)
theorem cancelR_hps {H : Hs} (hg : H.g ≤ 4) (who : Int) (o : Oo) : Hps H (cancelR H who o).2 := by
  unfold cancelR
  repeat' split
  all_goals first | exact Hps.refl H | (refine ⟨rfl, rfl, ?_, ?_⟩ <;> dsimp only <;> first | exact bindL_kps hg _ _ _ _ | exact List.length_set)
theorem offerR_hps {H : Hs} (hg : H.g ≤ 4) (who : Int) (o : Oo) : Hps H (offerR H who o).2 := by
  unfold offerR
  repeat' split
  all_goals first | exact Hps.refl H | (refine ⟨rfl, rfl, ?_, rfl⟩; dsimp only; exact bindL_kps hg _ _ _ _)
theorem wantR_hps {H : Hs} (hg : H.g ≤ 4) (who : Int) (o : Oo) : Hps H (wantR H who o).2 := by
  unfold wantR
  repeat' split
  all_goals first | exact Hps.refl H | (refine ⟨rfl, rfl, ?_, rfl⟩; dsimp only; first | exact bindL_kps hg _ _ _ _ | exact Kps.refl _)

/-- The accounts when so much more of a kind is there. -/
structure Gtn (l l' : Ks) (x0 : Nat) (n : Int) : Prop where
  len : l'.length = l.length
  tot : ∀ x, Led.IsA x → Led.tot l' x = Led.tot l x + if x = x0 then n else 0
  st : ∀ j, (Led.kAt l' j).n 10 = (Led.kAt l j).n 10
  rp : ∀ j, (Led.kAt l' j).reply = (Led.kAt l j).reply
theorem inR_gtn {l : Ks} {i a h : Nat} {n : Int} (hi : i < l.length) (p : Led.Part a h) : (Led.inR l i a n).1 = 0 ∧ Gtn l (Led.inR l i a n).2 a n ∨ ¬ (Led.inR l i a n).1 = 0 ∧ (Led.inR l i a n).2 = l := by
  by_cases e : (Led.inR l i a n).1 = 0
  · refine Or.inl ⟨e, inR_len, fun x hx => Led.sum_in hi e, ?_, ?_⟩
    · unfold Led.inR; split
      · exact fun j => rfl
      · exact (upd_mk hi (part_ne10 p).1).1
    · unfold Led.inR; split
      · exact fun j => rfl
      · exact (upd_mk hi (part_ne10 p).1).2
  · exact Or.inr ⟨e, Led.if_not e⟩
theorem outR_gtn {l : Ks} {i a h : Nat} {n : Int} (hi : i < l.length) (p : Led.Part a h) : (Led.outR l i a h n).1 = 0 ∧ Gtn l (Led.outR l i a h n).2 a (-n) ∨ ¬ (Led.outR l i a h n).1 = 0 ∧ (Led.outR l i a h n).2 = l := by
  by_cases e : (Led.outR l i a h n).1 = 0
  · refine Or.inl ⟨e, outR_len, fun x hx => Led.sum_out hi e, ?_, ?_⟩
    · unfold Led.outR; split
      · exact fun j => rfl
      · exact (upd_mk hi (part_ne10 p).1).1
    · unfold Led.outR; split
      · exact fun j => rfl
      · exact (upd_mk hi (part_ne10 p).1).2
  · exact Or.inr ⟨e, Led.if_not e⟩
theorem gate_gtn {e : Int} {l : Ks} {r : Int × Ks} {a : Nat} {n : Int} (h : e = 0 → r.1 = 0 ∧ Gtn l r.2 a n ∨ ¬ r.1 = 0 ∧ r.2 = l) : (Led.gate e l r).1 = 0 ∧ Gtn l (Led.gate e l r).2 a n ∨ ¬ (Led.gate e l r).1 = 0 ∧ (Led.gate e l r).2 = l := by
  unfold Led.gate
  split
  · next he => exact h he
  · next he => exact Or.inr ⟨he, rfl⟩
/-- What comes from outside, or goes there: of which kind. -/
def outK (o : Oo) : Nat := if o.k = 4 ∨ o.k = 5 then 2 + o.g.toNat else 0
def outN (o : Oo) : Int := if o.k = 2 ∨ o.k = 4 then o.a else if o.k = 3 ∨ o.k = 5 then -o.a else 0
theorem pay_gtn (g : Nat) (l : Ks) (who : Int) (o : Oo) : (payR g l who o).1 = 0 ∧ Gtn l (payR g l who o).2 0 o.a ∨ ¬ (payR g l who o).1 = 0 ∧ (payR g l who o).2 = l := by
  refine gate_gtn fun e => ?_
  obtain ⟨i, rfl, hi, _⟩ := Led.refE_one e
  exact inR_gtn (by simpa using hi) Led.part0
theorem take_gtn (g : Nat) (l : Ks) (who : Int) (o : Oo) : (takeR g l who o).1 = 0 ∧ Gtn l (takeR g l who o).2 0 (-o.a) ∨ ¬ (takeR g l who o).1 = 0 ∧ (takeR g l who o).2 = l := by
  refine gate_gtn fun e => ?_
  obtain ⟨i, rfl, hi, _⟩ := Led.refE_one e
  exact outR_gtn (by simpa using hi) Led.part0
theorem store_gtn {g : Nat} (hg : g ≤ 4) (l : Ks) (who : Int) (o : Oo) : (storeR g l who o).1 = 0 ∧ Gtn l (storeR g l who o).2 (2 + o.g.toNat) o.a ∨ ¬ (storeR g l who o).1 = 0 ∧ (storeR g l who o).2 = l := by
  refine gate_gtn fun e => ?_
  obtain ⟨e, q, hq, hqg⟩ := Led.refG_ok e
  obtain ⟨i, rfl, hi, _⟩ := Led.refE_one e
  rw [hq]
  exact inR_gtn (by simpa using hi) (partGd (by simp; omega))
theorem fetch_gtn {g : Nat} (hg : g ≤ 4) (l : Ks) (who : Int) (o : Oo) : (fetchR g l who o).1 = 0 ∧ Gtn l (fetchR g l who o).2 (2 + o.g.toNat) (-o.a) ∨ ¬ (fetchR g l who o).1 = 0 ∧ (fetchR g l who o).2 = l := by
  refine gate_gtn fun e => ?_
  obtain ⟨e, q, hq, hqg⟩ := Led.refG_ok e
  obtain ⟨i, rfl, hi, _⟩ := Led.refE_one e
  rw [hq]
  exact outR_gtn (by simpa using hi) (partGd (by simp; omega))
theorem Kps.gtn {l l' : Ks} (h : Kps l l') (x : Nat) : Gtn l l' x 0 := ⟨h.len, fun y hy => by rw [h.tot y hy]; split <;> omega, h.st, h.rp⟩
theorem Hps.gtn {H H' : Hs} (h : Hps H H') : Gtn H.l H'.l 0 0 := h.l.gtn 0
end Go.Proofs.YtpekfpfhonechaaGreat

namespace Go.Proofs.YtpekfpfhonechaaGreat
open Go.RowKit
set_option linter.unusedSimpArgs false
set_option linter.unusedVariables false
variable {base : Nat}

/-- What a request does to a house of at most four goods. -/
structure Dps (H H' : Hs) (c : Int) (o : Oo) : Prop where
  g : H'.g = H.g
  nms : H'.ms.length = H.ms.length
  l : Gtn H.l H'.l (outK o) (if c = 0 then outN o else 0)
  now : H'.now = if c = 0 ∧ o.k = 1 then H.now + 1 else H.now
theorem outN_none {o : Oo} (h : o.k < 2 ∨ 5 < o.k) : outN o = 0 := by
  unfold outN
  rw [if_neg (by omega), if_neg (by omega)]
theorem Hps.dps {H H' : Hs} (h : Hps H H') (c : Int) {o : Oo} (ho : o.k < 1 ∨ 5 < o.k) : Dps H H' c o :=
  ⟨h.g, h.nms, by rw [outN_none (by omega), show (if c = 0 then (0 : Int) else 0) = 0 by split <;> rfl]; exact h.l.gtn _, by rw [if_neg (by omega)]; exact h.now⟩
theorem acc_dps {f : Nat → Ks → Int → Oo → Int × Ks} {H : Hs} {who : Int} {o : Oo} {x : Nat} {n : Int} (h : (f H.g H.l who o).1 = 0 ∧ Gtn H.l (f H.g H.l who o).2 x n ∨ ¬ (f H.g H.l who o).1 = 0 ∧ (f H.g H.l who o).2 = H.l)
    (hk : o.k ≠ 1) (hx : outK o = x) (hn : outN o = n) : Dps H (accH f H who o).2 (accH f H who o).1 o := by
  refine ⟨rfl, rfl, ?_, by rw [if_neg (fun e => hk e.2)]; rfl⟩
  rw [hx, hn]
  rcases h with ⟨h1, h2⟩ | ⟨h1, h2⟩
  · rw [if_pos (show (accH f H who o).1 = 0 from h1)]; exact h2
  · rw [if_neg (show ¬ (accH f H who o).1 = 0 from h1)]
    show Gtn H.l (f H.g H.l who o).2 x 0
    rw [h2]
    exact (Kps.refl _).gtn _
theorem deedR_dps {H : Hs} (hg : H.g ≤ 4) (who : Int) (o : Oo) : Dps H (deedR H who o).2 (deedR H who o).1 o := by
  unfold deedR
  by_cases k1 : o.k = 1
  · rw [if_pos k1]
    rcases tickR_hps hg with ⟨h1, h2, _⟩ | ⟨h1, h2⟩
    · refine ⟨h2.g, h2.nms, ?_, by rw [if_pos ⟨h1, k1⟩]; exact h2.now⟩
      rw [outN_none (by omega), h1, if_pos rfl]
      exact h2.l.gtn _
    · rw [h1, h2]
      exact ⟨rfl, rfl, by rw [if_neg (by decide)]; exact (Kps.refl _).gtn _, by rw [if_neg (fun e => by cases e.1)]⟩
  rw [if_neg k1]
  by_cases k2 : o.k = 2
  · rw [if_pos k2]; exact acc_dps (pay_gtn _ _ _ _) k1 (by unfold outK; rw [if_neg (by omega)]) (by unfold outN; rw [if_pos (by omega)])
  rw [if_neg k2]
  by_cases k3 : o.k = 3
  · rw [if_pos k3]; exact acc_dps (take_gtn _ _ _ _) k1 (by unfold outK; rw [if_neg (by omega)]) (by unfold outN; rw [if_neg (by omega), if_pos (by omega)])
  rw [if_neg k3]
  by_cases k4 : o.k = 4
  · rw [if_pos k4]; exact acc_dps (store_gtn hg _ _ _) k1 (by unfold outK; rw [if_pos (by omega)]) (by unfold outN; rw [if_pos (by omega)])
  rw [if_neg k4]
  by_cases k5 : o.k = 5
  · rw [if_pos k5]; exact acc_dps (fetch_gtn hg _ _ _) k1 (by unfold outK; rw [if_pos (by omega)]) (by unfold outN; rw [if_neg (by omega), if_pos (by omega)])
  rw [if_neg k5]
  by_cases k6 : o.k = 6
  · rw [if_pos k6]; exact (offerR_hps hg who o).dps _ (by omega)
  rw [if_neg k6]
  by_cases k7 : o.k = 7
  · rw [if_pos k7]; exact (wantR_hps hg who o).dps _ (by omega)
  rw [if_neg k7]
  by_cases k8 : o.k = 8
  · rw [if_pos k8]; exact (putR_hps hg who o).dps _ (by omega)
  rw [if_neg k8]
  by_cases k9 : o.k = 9
  · rw [if_pos k9]; exact (amendR_hps hg who o).dps _ (by omega)
  rw [if_neg k9]
  by_cases k10 : o.k = 10
  · rw [if_pos k10]; exact (cancelR_hps hg who o).dps _ (by omega)
  rw [if_neg k10]
  refine ⟨rfl, rfl, ?_, by rw [if_neg (fun e => by cases e.1)]⟩
  rw [if_neg (show ¬ ((90 : Int), H).1 = 0 by intro e; cases e)]
  exact (Kps.refl _).gtn _

theorem offerR_pst {H : Hs} (h : Pst H) (who : Int) (o : Oo) : Pst (offerR H who o).2 := by
  unfold offerR
  split
  · exact h
  · split
    · exact h
    · split
      · exact h
      · next h1 =>
        have hf : Clo.Au.fits o.a (Quo.ticksR o.pr 6).1 o.d (H.l.length : Int) := by
          have := Classical.not_not.1 h1
          exact this
        split
        · exact h
        · split
          · exact h
          · exact h.set _ _ ⟨rfl, by have := Clo.Inv.new hf; rwa [Int.toNat_natCast] at this⟩
theorem wantR_pst {H : Hs} (h : Pst H) (who : Int) (o : Oo) : Pst (wantR H who o).2 := by
  unfold wantR
  split
  · exact h
  · split
    · exact h
    · split
      · next x hx =>
        obtain ⟨h0, h1⟩ := h _ x hx
        split
        · exact h
        · split
          · exact h
          · split
            · exact h.set _ _ ⟨(bid_keeps _ _ _).1.trans ((bid_keeps _ _ _).1.trans h0), (h1.bid _ _).bid _ _⟩
            · exact h.set _ _ ⟨(bid_keeps _ _ _).1.trans h0, h1.bid _ _⟩
      · exact h
theorem Pst.same {H H' : Hs} (h : Pst H) (e : H'.ss = H.ss) : Pst H' := by
  intro i x hx
  rw [e] at hx
  exact h i x hx
theorem deedR_pst {H : Hs} (h : Pst H) (who : Int) (o : Oo) : Pst (deedR H who o).2 := by
  unfold deedR
  repeat' split
  · exact tickR_pst h
  · exact h
  · exact h
  · exact h
  · exact h
  · exact offerR_pst h _ _
  · exact wantR_pst h _ _
  · refine h.same ?_
    unfold putR
    repeat' split
    all_goals rfl
  · refine h.same ?_
    unfold amendR amdR
    repeat' split
    all_goals rfl
  · refine h.same ?_
    unfold cancelR
    repeat' split
    all_goals rfl
  · exact h

/-- What bytes ask for. -/
def reqR (H : Hs) (who : Int) (op : ByteArray) : Int × Hs := match ofOpR op with
  | .ok o => deedR H who o
  | .error _ => (90, H)
def valR (H : Hs) (who : Int) (op : ByteArray) : Int := match ofOpR op with
  | .ok o => if (deedR H who o).1 = 0 ∧ o.k = 1 then (deedR H who o).2.now else 0
  | .error _ => 0
/-- A request: the reply, why there is none, and the house behind it. -/
def doR (H : Hs) (who stamp : Int) (op : ByteArray) : ByteArray × Int × Hs :=
  if refR H.l who stamp = 0 then (layR (reqR H who op).1 (valR H who op), 0, doneS who stamp (reqR H who op) (valR H who op)) else (⟨#[]⟩, refR H.l who stamp, H)
theorem reqR_cd (H : Hs) (who : Int) (op : ByteArray) : cd (reqR H who op).1 := by
  unfold reqR
  split
  · exact deedR_cd _ _ _
  · unfold cd; simp
theorem valR_bd {H : Hs} (hg : H.g ≤ 4) (hn : 0 ≤ H.now ∧ H.now ≤ 9007199254740992) (who : Int) (op : ByteArray) : 0 ≤ valR H who op ∧ valR H who op ≤ 9007199254740992 := by
  unfold valR
  split
  · next o _ =>
    split
    · next h =>
      have h1 := deedR_dps hg who o
      rw [h1.now, if_pos h]
      have h2 := h.1
      unfold deedR at h2
      rw [if_pos h.2] at h2
      rcases tickR_hps hg with ⟨_, _, h3⟩ | ⟨h3, _⟩
      · omega
      · rw [h3] at h2; cases h2
    · omega
  · omega
theorem refR_ok {l : Ks} {who stamp : Int} (h : refR l who stamp = 0) : ∃ i : Nat, who = i ∧ i < l.length ∧ 1 ≤ stamp ∧ stamp ≤ 1099511627776 ∧ (Led.kAt l i).n 10 < stamp := by
  unfold refR at h
  split at h
  · cases h
  · split at h
    · cases h
    · split at h
      · cases h
      · next h1 h2 h3 => exact ⟨who.toNat, by omega, by omega, by omega, by omega, by omega⟩

theorem vget_none {k : Int} (h : k < 1 ∨ 10 < k) : vget deedsKV k = none := by
  unfold deedsKV
  simp only [vget]
  repeat' split
  all_goals first | rfl | omega | simp_all <;> omega
set_option maxRecDepth 100000 in
theorem any_request (w : World) {X : Ad} {H : Hs} (h : Hm w base X H) (hB : base ≤ w.heap.size) (hp : Pst H) (who : Int) (hw0 : 0 ≤ who) (hw1 : who < H.l.length) (op : ByteArray) (hs : op.size ≤ maxLen) :
    Calls Tryz.prog 35 #[.pointer (some ⟨X.p, 0, none⟩), .int .i64 who, .string op] w (ReqP base X w (reqR H who op) (valR H who op)) := by
  unfold reqR valR
  have hbad : ∀ (o : Oo) (er : Int), opAns (ofOpR op) = #[o.val, .int .i64 er] → (¬ er = 0 ∨ vget deedsKV o.k = none) → Calls Tryz.prog 35 #[.pointer (some ⟨X.p, 0, none⟩), .int .i64 who, .string op] w (ReqP base X w (90, H) 0) :=
    fun o er h1 h2 => (request_bad w h who op hs o er h1 h2).mono fun e w' ⟨e1, e2⟩ => ⟨e1, X, h.below e2, Hst.of_below e2, rfl⟩
  cases hO : ofOpR op with
  | error er =>
    simp only
    refine hbad zeroOo er ?_ (Or.inl (ofOpR_nz hO))
    rw [hO]; rfl
  | ok o =>
    simp only
    obtain ⟨hgo, hk0, hk1⟩ := ofOpR_good hO
    have go : ∀ (r : Int × Hs) (F : FuncId), deedR H who o = r → vget deedsKV o.k = some (.func (.func F) #[] #[]) → (∀ args w, (callFunc F args).run Tryz.prog w = .ok (.enter F args) w) →
        (∀ wx, Hm wx base X H → base ≤ wx.heap.size → Calls Tryz.prog F #[.pointer (some ⟨X.p, 0, none⟩), .int .i64 who, o.val] wx (Deed base X wx r)) →
        Calls Tryz.prog 35 #[.pointer (some ⟨X.p, 0, none⟩), .int .i64 who, .string op] w (ReqP base X w (deedR H who o) (if (deedR H who o).1 = 0 ∧ o.k = 1 then (deedR H who o).2.now else 0)) :=
      fun r F e hF hc hD => by
        subst e
        exact request_hs w h hB who op hs _ o hO F hF hc hD
    by_cases k1 : o.k = 1
    · exact go _ 54 (by unfold deedR; rw [if_pos k1]) (by rw [k1]; rfl) (fun _ _ => rfl) (fun wx hx hBx => tickE_hs wx hx hBx hp who o)
    by_cases k2 : o.k = 2
    · exact go _ 55 (by unfold deedR; rw [if_neg k1, if_pos k2]) (by rw [k2]; rfl) (fun _ _ => rfl) (fun wx hx hBx => pay_deed wx hx who o)
    by_cases k3 : o.k = 3
    · exact go _ 56 (by unfold deedR; rw [if_neg k1, if_neg k2, if_pos k3]) (by rw [k3]; rfl) (fun _ _ => rfl) (fun wx hx hBx => take_deed wx hx who o)
    by_cases k4 : o.k = 4
    · exact go _ 57 (by unfold deedR; rw [if_neg k1, if_neg k2, if_neg k3, if_pos k4]) (by rw [k4]; rfl) (fun _ _ => rfl) (fun wx hx hBx => store_deed wx hx who o)
    by_cases k5 : o.k = 5
    · exact go _ 58 (by unfold deedR; rw [if_neg k1, if_neg k2, if_neg k3, if_neg k4, if_pos k5]) (by rw [k5]; rfl) (fun _ _ => rfl) (fun wx hx hBx => fetch_deed wx hx who o)
    by_cases k6 : o.k = 6
    · exact go _ 59 (by unfold deedR; rw [if_neg k1, if_neg k2, if_neg k3, if_neg k4, if_neg k5, if_pos k6]) (by rw [k6]; rfl) (fun _ _ => rfl) (fun wx hx hBx => offer_hs wx hx hBx who hw0 hw1 o hgo)
    by_cases k7 : o.k = 7
    · exact go _ 60 (by unfold deedR; rw [if_neg k1, if_neg k2, if_neg k3, if_neg k4, if_neg k5, if_neg k6, if_pos k7]) (by rw [k7]; rfl) (fun _ _ => rfl) (fun wx hx hBx => want_hs wx hx hBx who hw0 hw1 o hgo)
    by_cases k8 : o.k = 8
    · exact go _ 61 (by unfold deedR; rw [if_neg k1, if_neg k2, if_neg k3, if_neg k4, if_neg k5, if_neg k6, if_neg k7, if_pos k8]) (by rw [k8]; rfl) (fun _ _ => rfl) (fun wx hx hBx => put_hs wx hx hBx who hw0 hw1 o hgo (fun e => Quo.ticks_bd e))
    by_cases k9 : o.k = 9
    · exact go _ 62 (by unfold deedR; rw [if_neg k1, if_neg k2, if_neg k3, if_neg k4, if_neg k5, if_neg k6, if_neg k7, if_neg k8, if_pos k9]) (by rw [k9]; rfl) (fun _ _ => rfl) (fun wx hx hBx => amend_hs wx hx hBx who hw0 hw1 o hgo (fun e => Quo.ticks_bd e))
    by_cases k10 : o.k = 10
    · exact go _ 63 (by unfold deedR; rw [if_neg k1, if_neg k2, if_neg k3, if_neg k4, if_neg k5, if_neg k6, if_neg k7, if_neg k8, if_neg k9, if_pos k10]) (by rw [k10]; rfl) (fun _ _ => rfl) (fun wx hx hBx => cancel_hs wx hx hBx who hw0 hw1 o hgo)
    have e : deedR H who o = (90, H) := by
      unfold deedR
      rw [if_neg k1, if_neg k2, if_neg k3, if_neg k4, if_neg k5, if_neg k6, if_neg k7, if_neg k8, if_neg k9, if_neg k10]
    rw [e, if_neg (fun e => by cases e.1)]
    refine hbad o 0 ?_ (Or.inr (vget_none (by omega)))
    rw [hO]; rfl
theorem do_calls (w : World) {X : Ad} {H : Hs} (h : Hm w base X H) (hB : base ≤ w.heap.size) (hp : Pst H) (who stamp : Int) (op : ByteArray) (hs : op.size ≤ maxLen) :
    Calls Tryz.prog 20 #[.pointer (some ⟨X.p, 0, none⟩), .int .i64 who, .int .i64 stamp, .string op] w fun e w' => e = .returned (.tuple #[.string (doR H who stamp op).1, .int .i64 (doR H who stamp op).2.1]) ∧ ∃ X', Hm w' base X' (doR H who stamp op).2.2 ∧ Hst w w' X X' ∧ X'.p = X.p := by
  unfold doR
  by_cases hr : refR H.l who stamp = 0
  · rw [if_pos hr]
    obtain ⟨i, rfl, hi, _⟩ := refR_ok hr
    exact do_hs w h hB _ stamp op hr (reqR H _ op) (valR H _ op) (reqR_cd _ _ _) (valR_bd h.ha.lg.inv.g4 h.n0 _ _) (fun wx hx hBx => any_request wx hx hBx hp _ (by omega) (by omega) op hs)
  · rw [if_neg hr]
    exact (do_no w h who stamp op hr).mono fun e w' ⟨h1, h2⟩ => ⟨h1, X, h.below h2, Hst.of_below h2, rfl⟩
theorem doR_pst {H : Hs} (h : Pst H) (who stamp : Int) (op : ByteArray) : Pst (doR H who stamp op).2.2 := by
  unfold doR
  split
  · refine Pst.same (H := (reqR H who op).2) ?_ rfl
    unfold reqR
    split
    · exact deedR_pst h _ _
    · exact h
  · exact h
/-- A mark. -/
theorem markR_is {l l' : Ks} {who stamp : Int} {t : ByteArray} (h : refR l who stamp = 0) (hl : l'.length = l.length) (hs : ∀ j, (Led.kAt l' j).n 10 = (Led.kAt l j).n 10) (ht : t.size ≤ 256) :
    ∃ i : Nat, who = i ∧ i < l'.length ∧ Led.markR l' who stamp t = (0, Led.markL l' i stamp t) := by
  obtain ⟨i, rfl, h1, h2, h3, h4⟩ := refR_ok h
  refine ⟨i, rfl, by omega, ?_⟩
  unfold Led.markR
  rw [Int.toNat_natCast, if_neg (fun e => e ⟨by omega, by omega⟩), if_neg (by omega), if_neg (by rw [hs]; omega)]
/-- What any request does to all there is, to the time and to the sizes. -/
structure Rps (H H' : Hs) (c : Int) (o : Oo) : Prop where
  g : H'.g = H.g
  nms : H'.ms.length = H.ms.length
  len : H'.l.length = H.l.length
  tot : ∀ x, Led.IsA x → Led.tot H'.l x = Led.tot H.l x + if x = outK o then (if c = 0 then outN o else 0) else 0
  now : H'.now = if c = 0 ∧ o.k = 1 then H.now + 1 else H.now
theorem Dps.done {H H' : Hs} {c V : Int} {o : Oo} (h : Dps H H' c o) {who stamp : Int} (hr : refR H.l who stamp = 0) : Rps H (doneS who stamp (c, H') V) c o := by
  have hls := layR_size c V
  obtain ⟨i, rfl, hi, e⟩ := markR_is (l' := H'.l) (t := layR c V) hr h.l.len h.l.st (by omega)
  refine ⟨h.g, h.nms, ?_, fun x hx => ?_, h.now⟩
  · show (Led.markR H'.l i stamp (layR c V)).2.length = _
    rw [e]
    exact (Led.markL_len _ _ _ _).trans h.l.len
  · show Led.tot (Led.markR H'.l i stamp (layR c V)).2 x = _
    rw [e]
    show Led.tot (Led.markL H'.l i stamp (layR c V)) x = _
    rw [Led.sum_mark hi hx, h.l.tot x hx]
    omega
end Go.Proofs.YtpekfpfhonechaaGreat
