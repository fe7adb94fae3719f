/- A book behind some calls. -/
import Derived.Test.YtpekfpfhonechaaGreatWa26
namespace Go.Proofs.YtpekfpfhonechaaGreat.Cal
open Go.Shelf Go.RowKit Go.Lib Go.Sort
set_option linter.unusedSimpArgs false
set_option linter.unusedVariables false
variable {base p : Nat} {v : Value} {B : Bo}

theorem amend_calls (x y pr am : Int) (w : World) (h : Bk w base p v B) (hB : base ≤ w.heap.size) (r : Int × Bo) (hr : B.amend x y pr am = r) :
    Calls Tryz.prog 85 #[.pointer (some ⟨p, 0, none⟩), .int .i64 x, .int .i64 y, .int .i64 pr, .int .i64 am] w fun e w' => e = .returned (.int .i64 r.1) ∧ ∃ v', Bst w w' base p v v' r.2 := by
  unfold Bo.amend at hr
  rcases fnd_cases B.os x with ⟨f1, f2⟩ | ⟨i, o, f1, f2, f3, f4⟩
  · rw [if_pos (by rw [f1]; decide)] at hr
    subst hr
    have HO : Hid _ := owned_none x y w h f1
    have HH : Hid _ := h
    clear h f1 f2
    go_enter Tryz.func85, Tryz.ntmps85
    go_wp2_with fail
    refine Calls.mono HO.out ?_
    rintro e w1 ⟨rfl, b1⟩
    go_wp2
    go_ret
    exact ⟨rfl, v, Bst.same HH.out b1⟩
  · rw [if_neg (by rw [f1]; omega), gtB_some f1 f2 f3, f1, Int.toNat_natCast] at hr
    by_cases hy : o.own = y
    · rw [if_pos hy] at hr
      subst f3 hy
      unfold Bo.amd at hr
      cases hm : mayB (o.amd pr am)
      · rw [if_pos hm] at hr
        subst hr
        by_cases t1 : pr = o.pr
        · by_cases t2 : am ≤ o.am
          · exact amend_bada o i pr am w h hB f1 f2 hm t1 t2
          · exact amend_badb o i pr am w h hB f1 f2 hm t1 t2
        · exact amend_badc o i pr am w h hB f1 f2 hm t1
      · rw [if_neg (by rw [hm]; decide)] at hr
        by_cases t1 : pr = o.pr
        · by_cases t2 : am ≤ o.am
          · rw [if_pos ⟨t1, t2⟩] at hr
            subst hr
            exact amend_stay o i pr am w h hB f1 f2 hm t1 t2
          · rw [if_neg (fun e => t2 e.2)] at hr
            by_cases hx : B.nx = 9007199254740992
            · rw [if_pos hx] at hr
              subst hr
              exact amend_fullb o i pr am w h hB f1 f2 hm hx t1 t2
            · rw [if_neg hx] at hr
              subst hr
              exact amend_moveb o i pr am w h hB f1 f2 hm hx t1 t2
        · rw [if_neg (fun e => t1 e.1)] at hr
          by_cases hx : B.nx = 9007199254740992
          · rw [if_pos hx] at hr
            subst hr
            exact amend_fullc o i pr am w h hB f1 f2 hm hx t1
          · rw [if_neg hx] at hr
            subst hr
            exact amend_movec o i pr am w h hB f1 f2 hm hx t1
    · rw [if_neg hy] at hr
      subst hr
      have HO : Hid _ := owned_some x y w h i o f1 f2 (0, 80) (by rw [if_neg hy])
      have HH : Hid _ := h
      clear h f1 f2 f3 hy
      go_enter Tryz.func85, Tryz.ntmps85
      go_wp2_with fail
      refine Calls.mono HO.out ?_
      rintro e w1 ⟨rfl, b1⟩
      go_wp2
      go_ret
      exact ⟨rfl, v, Bst.same HH.out b1⟩
end Go.Proofs.YtpekfpfhonechaaGreat.Cal
