/- A book behind some calls. -/
import Derived.Test.YtglbfeccdibmiaaCaZa
import Derived.Test.YtglbfeccdibmiaaCaX
namespace Go.Proofs.Ytglbfeccdibmiaa
open Go.Shelf Go.RowKit Go.Lib Go.Sort
set_option linter.unusedSimpArgs false
set_option linter.unusedVariables false
variable {base p : Nat} {v : Value} {B : Bo}

def arnd (n : Int) : Int := if n.tmod 5 < 0 then 0 - n.tmod 5 else n.tmod 5
theorem arnd_bd (n : Int) : 0 ≤ arnd n ∧ arnd n < 5 := by
  unfold arnd
  have h1 := Int.tmod_lt_of_pos n (show (0 : Int) < 5 by decide)
  have h2 : -5 < n.tmod 5 := by
    have := Int.neg_le_neg (Int.le_refl (n.tmod 5))
    rcases Int.le_total 0 n with h | h
    · have := Int.tmod_nonneg 5 h; omega
    · have e : n.tmod 5 = -((-n).tmod 5) := by rw [Int.neg_tmod, Int.neg_neg]
      have := Int.tmod_lt_of_pos (-n) (show (0 : Int) < 5 by decide)
      omega
  split <;> omega
set_option maxRecDepth 100000 in
theorem around_calls (n : Int) (w : World) : Calls Try.prog 8 #[.int .i64 n, .int .i64 5] w fun e w' => e = .returned (.int .i64 (arnd n)) ∧ w' = w := by
  have hb := arnd_bd n
  unfold arnd at hb ⊢
  by_cases h0 : n.tmod 5 < 0
  · rw [if_pos h0] at hb ⊢
    go_enter Try.func8, Try.ntmps8
    go_wp2
    go_ret
    exact ⟨by rw [Int.zero_sub]; rfl, rfl⟩
  · rw [if_neg h0] at hb ⊢
    go_enter Try.func8, Try.ntmps8
    go_wp2
    go_ret
    exact ⟨rfl, rfl⟩
/-- What a call makes of a book. -/
def Bo.act (B : Bo) (a : Ac) : Bo :=
  if arnd a.1 = 2 then (B.amend a.2.id a.2.own a.2.pr a.2.am).2 else if arnd a.1 = 3 then (B.cancel a.2.id a.2.own).2 else if arnd a.1 = 4 then B.clr else (B.put a.2).2
theorem amend_calls (x y pr am : Int) (w : World) (h : Bk w base p v B) (hB : base ≤ w.heap.size) (r : Int × Bo) (hr : B.amend x y pr am = r) :
    Calls Try.prog 10 #[.pointer (some ⟨p, 0, none⟩), .int .i64 x, .int .i64 y, .int .i64 pr, .int .i64 am] w fun e w' => e = .returned (.int .i64 r.1) ∧ ∃ v', Bst w w' base p v v' r.2 := by
  unfold Bo.amend at hr
  rcases fnd_cases B.os x with ⟨f1, f2⟩ | ⟨i, o, f1, f2, f3, f4⟩
  · rw [if_pos (by rw [f1]; decide)] at hr
    subst hr
    have HO : Hid _ := owned_none x y w h f1
    have HH : Hid _ := h
    clear h f1 f2
    go_enter Try.func10, Try.ntmps10
    go_wp2_with fail
    refine Calls.mono HO.out ?_
    rintro e w1 ⟨rfl, b1⟩
    go_wp2
    go_ret
    exact ⟨rfl, v, Bst.same HH.out b1⟩
  · rw [if_neg (by rw [f1]; omega), gtB_some f1 f2 f3, f1, Int.toNat_natCast] at hr
    by_cases hy : o.own = y
    · rw [if_pos hy] at hr
      subst f3 hy
      unfold Bo.amd at hr
      cases hm : mayB (o.amd pr am)
      · rw [if_pos hm] at hr
        subst hr
        by_cases t1 : pr = o.pr
        · by_cases t2 : am ≤ o.am
          · exact amend_bada o i pr am w h hB f1 f2 hm t1 t2
          · exact amend_badb o i pr am w h hB f1 f2 hm t1 t2
        · exact amend_badc o i pr am w h hB f1 f2 hm t1
      · rw [if_neg (by rw [hm]; decide)] at hr
        by_cases t1 : pr = o.pr
        · by_cases t2 : am ≤ o.am
          · rw [if_pos ⟨t1, t2⟩] at hr
            subst hr
            exact amend_stay o i pr am w h hB f1 f2 hm t1 t2
          · rw [if_neg (fun e => t2 e.2)] at hr
            by_cases hx : B.nx = 9007199254740992
            · rw [if_pos hx] at hr
              subst hr
              exact amend_fullb o i pr am w h hB f1 f2 hm hx t1 t2
            · rw [if_neg hx] at hr
              subst hr
              exact amend_moveb o i pr am w h hB f1 f2 hm hx t1 t2
        · rw [if_neg (fun e => t1 e.1)] at hr
          by_cases hx : B.nx = 9007199254740992
          · rw [if_pos hx] at hr
            subst hr
            exact amend_fullc o i pr am w h hB f1 f2 hm hx t1
          · rw [if_neg hx] at hr
            subst hr
            exact amend_movec o i pr am w h hB f1 f2 hm hx t1
    · rw [if_neg hy] at hr
      subst hr
      have HO : Hid _ := owned_some x y w h i o f1 f2 (0, 80) (by rw [if_neg hy])
      have HH : Hid _ := h
      clear h f1 f2 f3 hy
      go_enter Try.func10, Try.ntmps10
      go_wp2_with fail
      refine Calls.mono HO.out ?_
      rintro e w1 ⟨rfl, b1⟩
      go_wp2
      go_ret
      exact ⟨rfl, v, Bst.same HH.out b1⟩
/-- A book behind some calls, a hundred at most. -/
def runs (l : List Ac) (k : Nat) : Bo := (l.take k).foldl Bo.act ⟨1, []⟩
theorem runs_succ {l : List Ac} {k : Nat} {a : Ac} (h : l[k]? = some a) : runs l (k + 1) = (runs l k).act a := by
  have hk := List.getElem?_eq_some_iff.1 h
  unfold runs
  rw [List.take_succ_eq_append_getElem hk.1, hk.2, List.foldl_append]
  rfl
end Go.Proofs.Ytglbfeccdibmiaa
