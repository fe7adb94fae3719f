/- A clearing buys as much as it sells; what each order gets: as plain data. -/
import Derived.Test.YtgofjheoebabeaaGreatDoorHn31
import Derived.WalkKit
import Derived.ProofKit
import Derived.Laws.FloatArith
namespace Go.Proofs.YtgofjheoebabeaaGreatDoor.Cal
open Go.Sort
set_option linter.unusedSimpArgs false
set_option linter.unusedVariables false

/-- All pieces of fills. -/
def totF : List Fi → Int
  | [] => 0
  | f :: l => f.2.2 + totF l
theorem fll_tot : ∀ (s : List Od) (n : Int), (∀ o ∈ s, 1 ≤ o.am) → 0 ≤ n → totF (fll s n) = min (amt s) n
  | [], n, h, hn => by simp only [fll, totF, amt]; omega
  | o :: s, n, h, hn => by
    have ho := h o (List.mem_cons_self ..)
    have hs := amt_nn s (fun q hq => h q (List.mem_cons_of_mem _ hq))
    rw [fll]
    split
    · rename_i hm
      simp only [totF, amt]
      omega
    · rw [totF, fll_tot s _ (fun q hq => h q (List.mem_cons_of_mem _ hq)) (by omega), amt]
      show min o.am n + min (amt s) (n - min o.am n) = min (o.am + amt s) n
      omega
/-- What a fill adds to a side. -/
def sdR (b : Bool) (f : Fi) : List Od → Int
  | [] => 0
  | o :: l => (if o.id = f.1 ∧ o.by = b then f.2.2 else 0) + sdR b f l
def sdS (os : List Od) (b : Bool) : List Fi → Int
  | [] => 0
  | f :: l => sdR b f os + sdS os b l
theorem sdR_app (b : Bool) (f : Fi) : ∀ l m : List Od, sdR b f (l ++ m) = sdR b f l + sdR b f m
  | [], m => by simp [sdR]
  | o :: l, m => by simp only [List.cons_append, sdR, sdR_app b f l m]; omega
theorem sdS_app (os : List Od) (b : Bool) : ∀ l m : List Fi, sdS os b (l ++ m) = sdS os b l + sdS os b m
  | [], m => by simp [sdS]
  | f :: l, m => by simp only [List.cons_append, sdS, sdS_app os b l m]; omega
theorem sdR_bd (b : Bool) (f : Fi) (h : 0 ≤ f.2.2 ∧ f.2.2 ≤ 1048576) : ∀ l : List Od, 0 ≤ sdR b f l ∧ sdR b f l ≤ l.length * 1048576
  | [] => by simp [sdR]
  | o :: l => by
    have := sdR_bd b f h l
    simp only [sdR, List.length_cons]
    split <;> (push_cast; omega)
theorem sdS_bd (os : List Od) (b : Bool) (ho : os.length ≤ 64) : ∀ l : List Fi, (∀ f ∈ l, 0 ≤ f.2.2 ∧ f.2.2 ≤ 1048576) → 0 ≤ sdS os b l ∧ sdS os b l ≤ l.length * 67108864
  | [], _ => by simp [sdS]
  | f :: l, h => by
    have h1 := sdS_bd os b ho l (fun g hg => h g (List.mem_cons_of_mem _ hg))
    have h2 := sdR_bd b f (h f (List.mem_cons_self ..)) os
    simp only [sdS, List.length_cons]
    push_cast
    omega
theorem sdR_none (b : Bool) (f : Fi) : ∀ l : List Od, (∀ o ∈ l, o.id ≠ f.1) → sdR b f l = 0
  | [], _ => rfl
  | o :: l, h => by
    rw [sdR, if_neg (fun e => h o (List.mem_cons_self ..) e.1), sdR_none b f l (fun q hq => h q (List.mem_cons_of_mem _ hq))]
    rfl
theorem sdR_one (b : Bool) (f : Fi) (o : Od) (hf : f.1 = o.id) : ∀ l : List Od, l.Pairwise (fun a b => a.id ≠ b.id) → o ∈ l → sdR b f l = if o.by = b then f.2.2 else 0
  | [], _, h => by cases h
  | q :: l, hp, h => by
    obtain ⟨h1, h2⟩ := List.pairwise_cons.1 hp
    rw [sdR]
    rcases List.mem_cons.1 h with e | e
    · subst e
      rw [sdR_none b f l (fun r hr e => h1 r hr (by rw [e, hf]))]
      by_cases hb : o.by = b
      · rw [if_pos ⟨hf.symm, hb⟩, if_pos hb]; omega
      · rw [if_neg (fun e => hb e.2), if_neg hb]; rfl
    · rw [sdR_one b f o hf l h2 e, if_neg (fun e2 => h1 o e (by rw [e2.1, hf]))]
      omega
variable {B : Bo}
theorem sdS_side (h : BInv B) (b c : Bool) : ∀ l : List Fi, (∀ f ∈ l, ∃ o ∈ B.os, f.1 = o.id ∧ o.by = c) → sdS B.os b l = if c = b then totF l else 0
  | [], _ => by simp [sdS, totF]
  | f :: l, hl => by
    obtain ⟨o, ho, hf, hc⟩ := hl f (List.mem_cons_self ..)
    rw [sdS, sdR_one b f o hf B.os h.ids ho, sdS_side h b c l (fun g hg => hl g (List.mem_cons_of_mem _ hg)), hc, totF]
    split <;> omega
theorem fll_side (g : Od → Bool) (lt : Od → Od → Bool) (n : Int) {f : Fi} (hf : f ∈ fll (stab lt (B.os.filter g)) n) : ∃ o ∈ B.os, g o = true ∧ f.1 = o.id ∧ f.2.1 = o.own ∧ 0 < f.2.2 ∧ f.2.2 ≤ o.am := by
  obtain ⟨o, ho, h1⟩ := fll_mem _ _ f hf
  have := (stab_perm (lt := lt) (B.os.filter g)).mem_iff.1 ho
  obtain ⟨h2, h3⟩ := List.mem_filter.1 this
  exact ⟨o, h2, h3, h1⟩
theorem crs_nn (h : BInv B) : 0 ≤ (crs B.os).2 := by
  have h1 := (crs_most h.may 0).1
  have h2 := trd_nn h.may 0
  unfold crs
  rw [jdg_book h]
  omega
theorem side_true (h : BInv B) (b : Bool) : sdS B.os b B.fl = (crs B.os).2 := by
  have hn := crs_nn h
  have hh := crs_hits h.may
  have e0 : (crs B.os) = B.os.foldl (crS B.os) (0, 0) := by unfold crs; rw [jdg_book h]
  rw [← e0] at hh
  unfold Bo.fl fills
  rw [jdg_book h, sdS_app]
  have a1 : ∀ o ∈ B.os, 1 ≤ o.am := fun o ho => may_am1 (h.may o ho)
  have k1 : ∀ (g : Od → Bool) (lt : Od → Od → Bool), totF (fll (stab lt (B.os.filter g)) (crs B.os).2) = min (amt (B.os.filter g)) (crs B.os).2 := fun g lt => by
    rw [fll_tot _ _ (fun o ho => a1 o (List.mem_filter.1 ((stab_perm (lt := lt) (B.os.filter g)).mem_iff.1 ho)).1) hn, amt_perm (stab_perm _)]
  have k2 : ∀ g : Od → Bool, 0 ≤ amt (B.os.filter g) := fun g => amt_nn _ (fun o ho => a1 o (List.mem_filter.1 ho).1)
  have kb := k2 (bAt (crs B.os).1)
  have ks := k2 (sAt (crs B.os).1)
  have ht : 0 < (crs B.os).2 → min (amt (B.os.filter (bAt (crs B.os).1))) (amt (B.os.filter (sAt (crs B.os).1))) = (crs B.os).2 := hh.1
  rw [sdS_side h b true _ (fun f hf => by
    obtain ⟨o, ho, hg, h1, _⟩ := fll_side _ _ _ hf
    exact ⟨o, ho, h1, by unfold bAt at hg; simp at hg; exact hg.1⟩), sdS_side h b false _ (fun f hf => by
    obtain ⟨o, ho, hg, h1, _⟩ := fll_side _ _ _ hf
    exact ⟨o, ho, h1, by unfold sAt at hg; simp at hg; exact hg.1⟩), k1, k1]
  generalize (crs B.os).2 = n at *
  generalize amt (B.os.filter (bAt (crs B.os).1)) = p at *
  generalize amt (B.os.filter (sAt (crs B.os).1)) = q at *
  cases b
  · simp only [Bool.true_eq_false, if_false, if_true]
    by_cases h0 : 0 < n
    · have := ht h0; omega
    · omega
  · simp only [Bool.false_eq_true, if_false, if_true]
    by_cases h0 : 0 < n
    · have := ht h0; omega
    · omega
/-- What a fill of an order keeps to. -/
theorem fl_of (h : BInv B) {f : Fi} (hf : f ∈ B.fl) {o : Od} (ho : o ∈ B.os) (e : f.1 = o.id) : 1 ≤ f.2.2 ∧ f.2.2 ≤ o.am ∧ f.2.1 = o.own ∧ (o.by = true → (crs B.os).1 ≤ o.pr) ∧ (o.by = false → o.pr ≤ (crs B.os).1) := by
  unfold Bo.fl fills at hf
  rw [jdg_book h] at hf
  rcases List.mem_append.1 hf with hf | hf
  · obtain ⟨q, hq, hg, h1, h2, h3, h4⟩ := fll_side _ _ _ hf
    obtain rfl := h.same hq ho (by rw [← h1, e])
    unfold bAt at hg
    simp only [Bool.and_eq_true, decide_eq_true_eq] at hg
    exact ⟨by omega, h4, h2, fun _ => hg.2, fun e => by rw [hg.1] at e; cases e⟩
  · obtain ⟨q, hq, hg, h1, h2, h3, h4⟩ := fll_side _ _ _ hf
    obtain rfl := h.same hq ho (by rw [← h1, e])
    unfold sAt at hg
    simp only [Bool.and_eq_true, Bool.not_eq_true', decide_eq_true_eq] at hg
    exact ⟨by omega, h4, h2, (fun e => by rw [hg.1] at e; cases e), fun _ => hg.2⟩
theorem fl_am (h : BInv B) {f : Fi} (hf : f ∈ B.fl) : 0 ≤ f.2.2 ∧ f.2.2 ≤ 1048576 := by
  obtain ⟨o, ho, h1, h2, h3, h4⟩ := fills_mem h hf
  have := h.may o ho
  unfold mayB at this
  simp only [Bool.and_eq_true, decide_eq_true_eq] at this
  omega
theorem got_snoc {l : List Fi} {k : Nat} {f : Fi} (hf : l[k]? = some f) (x : Int) : got (l.take (k + 1)) x = got (l.take k) x + (if f.1 = x then f.2.2 else 0) := by
  rw [List.take_add_one, hf, got_app]
  simp [got]
theorem clr_get (h : BInv B) {o : Od} (ho : o ∈ B.os) : (got B.fl o.id < o.am → gtB B.clr.os o.id = (o.setAm (o.am - got B.fl o.id), true)) ∧ (got B.fl o.id = o.am → gtB B.clr.os o.id = ((0, 0, 0, 0, 0, false), false)) := by
  refine ⟨fun hg => ?_, fun hg => ?_⟩
  · have hm : o.setAm (o.am - got B.fl o.id) ∈ B.clr.os := by
      rw [clr_os]
      refine List.mem_filter.2 ⟨List.mem_map.2 ⟨o, ho, rfl⟩, ?_⟩
      have h3 : (o.setAm (o.am - got B.fl o.id)).am = o.am - got B.fl o.id := rfl
      rw [h3]
      simp; omega
    rcases fnd_cases B.clr.os o.id with ⟨f1, f2⟩ | ⟨i, q, f1, f2, f3, f4⟩
    · exact absurd (show (o.setAm (o.am - got B.fl o.id)).id = o.id from rfl) (f2 (o.setAm (o.am - got B.fl o.id)) hm)
    · rw [gtB_some f1 f2 f3]
      rw [h.clr.same (List.mem_of_getElem? f2) hm f3]
  · refine gtB_none fun q hq0 e => ?_
    rw [clr_os] at hq0
    obtain ⟨h1, h2⟩ := List.mem_filter.1 hq0
    obtain ⟨q, hq, rfl⟩ := List.mem_map.1 h1
    have e' : q.id = o.id := e
    obtain rfl := h.same hq ho e'
    have h3 : (q.setAm (q.am - got B.fl q.id)).am = q.am - got B.fl q.id := rfl
    rw [h3, hg] at h2
    simp at h2
theorem clr_len (B : Bo) : B.clr.os.length ≤ B.os.length := by
  rw [clr_os]
  refine Nat.le_trans (List.length_filter_le _ _) ?_
  rw [List.length_map]
  exact Nat.le_refl _
end Go.Proofs.YtgofjheoebabeaaGreatDoor.Cal

namespace Go.Proofs.YtgofjheoebabeaaGreatDoor.Quo
open Go.RowKit
set_option linter.unusedSimpArgs false
set_option linter.unusedVariables false

def fneg (x : Nat) : Bool := x / 9223372036854775808 % 2 == 1
def frung (x : Nat) : Nat := x % 9223372036854775808
def fmag (r : Nat) : Nat := if r < 4503599627370496 then r else 4503599627370496 + r % 4503599627370496
def fexp (r : Nat) : Nat := r / 4503599627370496 - 1
/-- A rung's number, in units of the least one. -/
def fval (r : Nat) : Nat := fmag r * 2 ^ fexp r
def fsgn (s : Bool) (n : Nat) : Int := if s then -(n : Int) else (n : Int)
def srung (x : Nat) : Int := fsgn (fneg x) (frung x)
def fword (s : Bool) (r : Nat) : Nat := if s then 9223372036854775808 + r else r
def fnan (x : Nat) : Bool := decide (9218868437227405312 < frung x)

theorem frung_lt (x : Nat) : frung x < 9223372036854775808 := Nat.mod_lt _ (by decide)
theorem fword_rung (s : Bool) {r : Nat} (h : r < 9223372036854775808) : frung (fword s r) = r := by
  unfold frung fword; cases s <;> simp <;> omega
theorem fword_neg (s : Bool) {r : Nat} (h : r < 9223372036854775808) : fneg (fword s r) = s := by
  unfold fneg fword
  cases s
  · simp only [Bool.false_eq_true, if_false]; rw [Nat.div_eq_of_lt h]; rfl
  · simp only [if_true]; rw [show (9223372036854775808 + r) / 9223372036854775808 = 1 by omega]; rfl
theorem fword_self {x : Nat} (h : x < 18446744073709551616) : fword (fneg x) (frung x) = x := by
  unfold fword fneg frung
  by_cases h1 : x < 9223372036854775808
  · rw [Nat.div_eq_of_lt h1]; simp; omega
  · rw [show x / 9223372036854775808 = 1 by omega]; simp; omega
theorem fword_lt (s : Bool) {r : Nat} (h : r < 9223372036854775808) : fword s r < 18446744073709551616 := by
  unfold fword; split <;> omega
theorem word_double (s : Bool) (r : Nat) : Ieee.double.word s r = fword s r := rfl

theorem read_fin {x : Nat} (h : frung x < 9218868437227405312) : Ieee.double.read x = .number (fneg x) (fmag (frung x)) (-1074 + (fexp (frung x) : Nat)) := by
  have e1 : Ieee.double.signWeight = 9223372036854775808 := rfl
  have e2 : Ieee.double.binade = 4503599627370496 := rfl
  have e3 : Ieee.double.infRung = 9218868437227405312 := rfl
  have e4 : Ieee.double.leastPlace = -1074 := rfl
  unfold Ieee.Format.read
  rw [e1, e2, e3, e4]
  have hr : x % 9223372036854775808 = frung x := rfl
  have hn : (x / 9223372036854775808 % 2 == 1) = fneg x := rfl
  simp only [hr, hn]
  by_cases h1 : frung x < 4503599627370496
  · rw [if_pos h1]
    have : fexp (frung x) = 0 := by unfold fexp; rw [Nat.div_eq_of_lt h1]
    rw [this]; unfold fmag; rw [if_pos h1]; rfl
  · rw [if_neg h1, if_pos h]; unfold fmag fexp; rw [if_neg h1]
theorem read_inf {x : Nat} (h : frung x = 9218868437227405312) : Ieee.double.read x = .infinity (fneg x) := by
  have hr : x % 9223372036854775808 = frung x := rfl
  have hn : (x / 9223372036854775808 % 2 == 1) = fneg x := rfl
  have e1 : Ieee.double.signWeight = 9223372036854775808 := rfl
  have e2 : Ieee.double.binade = 4503599627370496 := rfl
  have e3 : Ieee.double.infRung = 9218868437227405312 := rfl
  unfold Ieee.Format.read
  rw [e1, e2, e3]
  simp only [hr, hn, h]
  rfl
theorem read_nan {x : Nat} (h : 9218868437227405312 < frung x) : Ieee.double.read x = .nan (fneg x) (frung x - 9218868437227405312) := by
  have hr : x % 9223372036854775808 = frung x := rfl
  have hn : (x / 9223372036854775808 % 2 == 1) = fneg x := rfl
  have e1 : Ieee.double.signWeight = 9223372036854775808 := rfl
  have e2 : Ieee.double.binade = 4503599627370496 := rfl
  have e3 : Ieee.double.infRung = 9218868437227405312 := rfl
  unfold Ieee.Format.read
  rw [e1, e2, e3]
  simp only [hr, hn]
  rw [if_neg (by omega), if_neg (by omega), if_neg (by omega)]

/-! The rungs' numbers rise. -/
theorem fmag_lt (r : Nat) : fmag r < 9007199254740992 := by
  unfold fmag; have := Nat.mod_lt r (show 0 < 4503599627370496 by decide); split <;> omega
theorem fval_small {r : Nat} (h : r < 4503599627370496) : fval r = r := by
  unfold fval fmag fexp; rw [if_pos h, Nat.div_eq_of_lt h]; simp
theorem fval_at (q t : Nat) (ht : t < 4503599627370496) : fval ((q + 1) * 4503599627370496 + t) = (4503599627370496 + t) * 2 ^ q := by
  unfold fval fmag fexp
  rw [if_neg (by omega), show ((q + 1) * 4503599627370496 + t) % 4503599627370496 = t by omega, show ((q + 1) * 4503599627370496 + t) / 4503599627370496 = q + 1 by omega]
  rfl
theorem fval_succ (r : Nat) : fval r < fval (r + 1) := by
  by_cases h : r + 1 < 4503599627370496
  · rw [fval_small h, fval_small (by omega)]; omega
  · by_cases h0 : r < 4503599627370496
    · have e := fval_at 0 0 (by decide)
      rw [fval_small h0, show r + 1 = (0 + 1) * 4503599627370496 + 0 by omega, e]; omega
    · obtain ⟨q, t, ht, hr⟩ : ∃ q t, t < 4503599627370496 ∧ r = (q + 1) * 4503599627370496 + t := ⟨r / 4503599627370496 - 1, r % 4503599627370496, Nat.mod_lt _ (by decide), by omega⟩
      have h2 : 0 < 2 ^ q := Nat.two_pow_pos q
      by_cases ht1 : t + 1 < 4503599627370496
      · rw [hr, Nat.add_assoc, fval_at q t ht, fval_at q (t + 1) ht1]
        exact Nat.mul_lt_mul_of_pos_right (by omega) h2
      · rw [show r + 1 = (q + 1 + 1) * 4503599627370496 + 0 by omega, hr, fval_at q t ht, fval_at (q + 1) 0 (by decide), Nat.pow_succ, Nat.mul_comm (2 ^ q) 2, ← Nat.mul_assoc]
        exact Nat.mul_lt_mul_of_pos_right (by omega) h2
theorem fval_mono {a b : Nat} (h : a < b) : fval a < fval b := by
  induction b with
  | zero => omega
  | succ b ih =>
    by_cases e : a = b
    · subst e; exact fval_succ a
    · exact Nat.lt_trans (ih (by omega)) (fval_succ b)
theorem fval_lt {a b : Nat} : fval a < fval b ↔ a < b := by
  refine ⟨fun h => ?_, fval_mono⟩
  rcases Nat.lt_trichotomy a b with h1 | h1 | h1
  · exact h1
  · subst h1; omega
  · have := fval_mono h1; omega
theorem fval_inj {a b : Nat} (h : fval a = fval b) : a = b := by
  rcases Nat.lt_trichotomy a b with h1 | h1 | h1
  · have := fval_mono h1; omega
  · exact h1
  · have := fval_mono h1; omega
theorem fval_zero : fval 0 = 0 := by decide
theorem fval_eq_zero {r : Nat} : fval r = 0 ↔ r = 0 := by
  constructor
  · intro h; exact fval_inj (by rw [h, fval_zero])
  · rintro rfl; exact fval_zero

/-! The order. -/
theorem cmp_eq {a b c d : Int} (h1 : a < b ↔ c < d) (h2 : b < a ↔ d < c) : compare a b = compare c d := by
  show compareOfLessAndEq a b = compareOfLessAndEq c d
  unfold compareOfLessAndEq
  by_cases ha : a < b
  · rw [if_pos ha, if_pos (h1.1 ha)]
  · have hc : ¬ c < d := fun h => ha (h1.2 h)
    rw [if_neg ha, if_neg hc]
    by_cases hb : b < a
    · have hd := h2.1 hb
      rw [if_neg (by omega), if_neg (by omega)]
    · have hd : ¬ d < c := fun h => hb (h2.2 h)
      rw [if_pos (by omega), if_pos (by omega)]
theorem cmp_lt {a b : Int} : (compare a b == .lt) = decide (a < b) := by
  show (compareOfLessAndEq a b == .lt) = _
  unfold compareOfLessAndEq
  by_cases ha : a < b
  · rw [if_pos ha]; simp [ha]
  · rw [if_neg ha]; by_cases hb : a = b <;> simp [ha, hb] <;> rfl
theorem cmp_gt {a b : Int} : (compare a b == .gt) = decide (b < a) := by
  show (compareOfLessAndEq a b == .gt) = _
  unfold compareOfLessAndEq
  by_cases ha : a < b
  · rw [if_pos ha]; simp [show ¬ b < a by omega]
  · rw [if_neg ha]; by_cases hb : a = b
    · rw [if_pos hb]; simp [show ¬ b < a by omega]
    · rw [if_neg hb]; simp [show b < a by omega]
theorem cmp_same {a b : Int} : (compare a b == .eq) = decide (a = b) := by
  show (compareOfLessAndEq a b == .eq) = _
  unfold compareOfLessAndEq
  by_cases ha : a < b
  · rw [if_pos ha]; simp [show ¬ a = b by omega]
  · rw [if_neg ha]; by_cases hb : a = b
    · rw [if_pos hb]; simp [hb]
    · rw [if_neg hb]; simp [hb]

theorem fsgn_lt {f : Nat → Nat} (hf : ∀ a b, f a < f b ↔ a < b) (h0 : f 0 = 0) (s t : Bool) (a b : Nat) : fsgn s (f a) < fsgn t (f b) ↔ fsgn s a < fsgn t b := by
  have ha := hf 0 a
  have hb := hf 0 b
  have h1 := hf a b
  have h2 := hf b a
  rw [h0] at ha hb
  unfold fsgn
  cases s <;> cases t <;> simp <;> omega
theorem signed_eq (s : Bool) (m u : Nat) : Ieee.signed s m u = fsgn s (m * 2 ^ u) := by
  unfold Ieee.signed fsgn; rw [Nat.shiftLeft_eq]
theorem fsgn_mul (s : Bool) (a k : Nat) : fsgn s (a * k) = fsgn s a * k := by
  unfold fsgn; cases s <;> simp [Int.neg_mul]
theorem fsgn_scale (s t : Bool) (a b k : Nat) (hk : 0 < k) : fsgn s (a * k) < fsgn t (b * k) ↔ fsgn s a < fsgn t b := by
  rw [fsgn_mul, fsgn_mul]
  exact ⟨fun h => Int.lt_of_mul_lt_mul_right h (by omega), fun h => Int.mul_lt_mul_of_pos_right h (by omega)⟩

/-- Two numbers at two places stand as their signed rungs do. -/
theorem order_num (s t : Bool) (a b : Nat) : Ieee.Datum.order (.number s (fmag a) (-1074 + (fexp a : Nat))) (.number t (fmag b) (-1074 + (fexp b : Nat))) = some (compare (fsgn s a) (fsgn t b)) := by
  simp only [Ieee.Datum.order, signed_eq]
  congr 1
  generalize hu : ((-1074 + (fexp a : Nat) : Int) - min (-1074 + (fexp a : Nat) : Int) (-1074 + (fexp b : Nat))).toNat = u
  generalize hv : ((-1074 + (fexp b : Nat) : Int) - min (-1074 + (fexp a : Nat) : Int) (-1074 + (fexp b : Nat))).toNat = v
  obtain ⟨c, hc1, hc2⟩ : ∃ c, fexp a = u + c ∧ fexp b = v + c := ⟨min (fexp a) (fexp b), by omega, by omega⟩
  have ea : fmag a * 2 ^ u * 2 ^ c = fval a := by unfold fval; rw [hc1, Nat.pow_add, Nat.mul_assoc]
  have eb : fmag b * 2 ^ v * 2 ^ c = fval b := by unfold fval; rw [hc2, Nat.pow_add, Nat.mul_assoc]
  have hk : 0 < 2 ^ c := Nat.two_pow_pos c
  refine cmp_eq ?_ ?_
  · rw [← fsgn_scale s t _ _ (2 ^ c) hk, ea, eb]; exact fsgn_lt (fun a b => fval_lt) fval_zero s t a b
  · rw [← fsgn_scale t s _ _ (2 ^ c) hk, ea, eb]; exact fsgn_lt (fun a b => fval_lt) fval_zero t s b a

/-- The order of two words. -/
theorem order_eq (x y : Nat) : Ieee.double.order x y = if fnan x || fnan y then none else some (compare (srung x) (srung y)) := by
  unfold Ieee.Format.order
  rcases Nat.lt_trichotomy (frung x) 9218868437227405312 with hx | hx | hx
  · rcases Nat.lt_trichotomy (frung y) 9218868437227405312 with hy | hy | hy
    · rw [read_fin hx, read_fin hy, order_num]
      have h1 : fnan x = false := by unfold fnan; simp; omega
      have h2 : fnan y = false := by unfold fnan; simp; omega
      rw [h1, h2]; rfl
    · rw [read_fin hx, read_inf hy]
      have h1 : fnan x = false := by unfold fnan; simp; omega
      have h2 : fnan y = false := by unfold fnan; simp; omega
      rw [h1, h2]
      simp only [Ieee.Datum.order, srung, hy]
      cases hn : fneg y
      · rw [show compare (fsgn (fneg x) (frung x)) (fsgn false 9218868437227405312) = .lt from by
          rw [Int.compare_eq_lt]; unfold fsgn; cases fneg x <;> simp <;> omega]; rfl
      · rw [show compare (fsgn (fneg x) (frung x)) (fsgn true 9218868437227405312) = .gt from by
          rw [Int.compare_eq_gt]; unfold fsgn; cases fneg x <;> simp <;> omega]; rfl
    · rw [read_fin hx, read_nan hy]
      have h2 : fnan y = true := by unfold fnan; simp; omega
      rw [h2]; simp [Ieee.Datum.order]
  · rcases Nat.lt_trichotomy (frung y) 9218868437227405312 with hy | hy | hy
    · rw [read_inf hx, read_fin hy]
      have h1 : fnan x = false := by unfold fnan; simp; omega
      have h2 : fnan y = false := by unfold fnan; simp; omega
      rw [h1, h2]
      simp only [Ieee.Datum.order, srung, hx]
      cases hn : fneg x
      · rw [show compare (fsgn false 9218868437227405312) (fsgn (fneg y) (frung y)) = .gt from by
          rw [Int.compare_eq_gt]; unfold fsgn; cases fneg y <;> simp <;> omega]; rfl
      · rw [show compare (fsgn true 9218868437227405312) (fsgn (fneg y) (frung y)) = .lt from by
          rw [Int.compare_eq_lt]; unfold fsgn; cases fneg y <;> simp <;> omega]; rfl
    · rw [read_inf hx, read_inf hy]
      have h1 : fnan x = false := by unfold fnan; simp; omega
      have h2 : fnan y = false := by unfold fnan; simp; omega
      rw [h1, h2]
      simp only [Ieee.Datum.order, srung, hx, hy]
      cases fneg x <;> cases fneg y <;> rfl
    · rw [read_inf hx, read_nan hy]
      have h2 : fnan y = true := by unfold fnan; simp; omega
      rw [h2]; simp [Ieee.Datum.order]
  · rw [read_nan hx]
    have h1 : fnan x = true := by unfold fnan; simp; omega
    rw [h1]; simp [Ieee.Datum.order]
end Go.Proofs.YtgofjheoebabeaaGreatDoor.Quo
