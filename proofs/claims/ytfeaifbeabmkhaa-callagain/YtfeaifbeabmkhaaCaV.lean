/- A book behind some calls. -/
import Derived.Test.YtfeaifbeabmkhaaCaZa
import Derived.Test.YtfeaifbeabmkhaaCaX
namespace Go.Proofs.Ytfeaifbeabmkhaa
open Go.Shelf Go.RowKit Go.Lib Go.Sort
set_option linter.unusedSimpArgs false
set_option linter.unusedVariables false
variable {base p : Nat} {v : Value} {B : Bo}

def arnd (n : Int) : Int := if n.tmod 5 < 0 then 0 - n.tmod 5 else n.tmod 5
theorem arnd_bd (n : Int) : 0 ≤ arnd n ∧ arnd n < 5 := by
  unfold arnd
  have h1 := Int.tmod_lt_of_pos n (show (0 : Int) < 5 by decide)
  have h2 : -5 < n.tmod 5 := by
    have := Int.neg_le_neg (Int.le_refl (n.tmod 5))
    rcases Int.le_total 0 n with h | h
    · have := Int.tmod_nonneg 5 h; omega
    · have e : n.tmod 5 = -((-n).tmod 5) := by rw [Int.neg_tmod, Int.neg_neg]
      have := Int.tmod_lt_of_pos (-n) (show (0 : Int) < 5 by decide)
      omega
  split <;> omega
set_option maxRecDepth 100000 in
theorem around_calls (n : Int) (w : World) : Calls Try.prog 9 #[.int .i64 n, .int .i64 5] w fun e w' => e = .returned (.int .i64 (arnd n)) ∧ w' = w := by
  have hb := arnd_bd n
  unfold arnd at hb ⊢
  by_cases h0 : n.tmod 5 < 0
  · rw [if_pos h0] at hb ⊢
    go_enter Try.func9, Try.ntmps9
    go_wp2
    go_ret
    exact ⟨by rw [Int.zero_sub]; rfl, rfl⟩
  · rw [if_neg h0] at hb ⊢
    go_enter Try.func9, Try.ntmps9
    go_wp2
    go_ret
    exact ⟨rfl, rfl⟩
/-- What a call makes of a book. -/
def Bo.act (B : Bo) (a : Ac) : Bo :=
  if arnd a.1 = 2 then (B.amend a.2.id a.2.own a.2.pr a.2.am).2 else if arnd a.1 = 3 then (B.cancel a.2.id a.2.own).2 else if arnd a.1 = 4 then B.clr else (B.put a.2).2
theorem amend_calls (x y pr am : Int) (w : World) (h : Bk w base p v B) (hB : base ≤ w.heap.size) (r : Int × Bo) (hr : B.amend x y pr am = r) :
    Calls Try.prog 10 #[.pointer (some ⟨p, 0, none⟩), .int .i64 x, .int .i64 y, .int .i64 pr, .int .i64 am] w fun e w' => e = .returned (.int .i64 r.1) ∧ ∃ v', Bst w w' base p v v' r.2 := by
  unfold Bo.amend at hr
  rcases fnd_cases B.os x with ⟨f1, f2⟩ | ⟨i, o, f1, f2, f3, f4⟩
  · rw [if_pos (by rw [f1]; decide)] at hr
    subst hr
    have HO : Hid _ := owned_none x y w h f1
    have HH : Hid _ := h
    clear h f1 f2
    go_enter Try.func10, Try.ntmps10
    go_wp2_with fail
    refine Calls.mono HO.out ?_
    rintro e w1 ⟨rfl, b1⟩
    go_wp2
    go_ret
    exact ⟨rfl, v, Bst.same HH.out b1⟩
  · rw [if_neg (by rw [f1]; omega), gtB_some f1 f2 f3, f1, Int.toNat_natCast] at hr
    by_cases hy : o.own = y
    · rw [if_pos hy] at hr
      subst f3 hy
      unfold Bo.amd at hr
      cases hm : mayB (o.amd pr am)
      · rw [if_pos hm] at hr
        subst hr
        by_cases t1 : pr = o.pr
        · by_cases t2 : am ≤ o.am
          · exact amend_bada o i pr am w h hB f1 f2 hm t1 t2
          · exact amend_badb o i pr am w h hB f1 f2 hm t1 t2
        · exact amend_badc o i pr am w h hB f1 f2 hm t1
      · rw [if_neg (by rw [hm]; decide)] at hr
        by_cases t1 : pr = o.pr
        · by_cases t2 : am ≤ o.am
          · rw [if_pos ⟨t1, t2⟩] at hr
            subst hr
            exact amend_stay o i pr am w h hB f1 f2 hm t1 t2
          · rw [if_neg (fun e => t2 e.2)] at hr
            by_cases hx : B.nx = 9007199254740992
            · rw [if_pos hx] at hr
              subst hr
              exact amend_fullb o i pr am w h hB f1 f2 hm hx t1 t2
            · rw [if_neg hx] at hr
              subst hr
              exact amend_moveb o i pr am w h hB f1 f2 hm hx t1 t2
        · rw [if_neg (fun e => t1 e.1)] at hr
          by_cases hx : B.nx = 9007199254740992
          · rw [if_pos hx] at hr
            subst hr
            exact amend_fullc o i pr am w h hB f1 f2 hm hx t1
          · rw [if_neg hx] at hr
            subst hr
            exact amend_movec o i pr am w h hB f1 f2 hm hx t1
    · rw [if_neg hy] at hr
      subst hr
      have HO : Hid _ := owned_some x y w h i o f1 f2 (0, 80) (by rw [if_neg hy])
      have HH : Hid _ := h
      clear h f1 f2 f3 hy
      go_enter Try.func10, Try.ntmps10
      go_wp2_with fail
      refine Calls.mono HO.out ?_
      rintro e w1 ⟨rfl, b1⟩
      go_wp2
      go_ret
      exact ⟨rfl, v, Bst.same HH.out b1⟩
/-- A book behind some calls, a hundred at most. -/
def runs (l : List Ac) (k : Nat) : Bo := (l.take k).foldl Bo.act ⟨1, []⟩
theorem runs_succ {l : List Ac} {k : Nat} {a : Ac} (h : l[k]? = some a) : runs l (k + 1) = (runs l k).act a := by
  have hk := List.getElem?_eq_some_iff.1 h
  unfold runs
  rw [List.take_succ_eq_append_getElem hk.1, hk.2, List.foldl_append]
  rfl
set_option maxHeartbeats 8000000 in
set_option maxRecDepth 100000 in
theorem begun_calls (sv : Value) (l : List Ac) (w : World) (hl : Acs w sv l) (hn : l.length * 56 ≤ 140737488351232) :
    Calls Try.prog 4 #[sv] w fun e w' => e = .returned (.pointer (some ⟨w.heap.size, 0, none⟩)) ∧ ∃ v', Bk w' w.heap.size w.heap.size v' (runs l 100) ∧ Below w.heap.size w w' := by
  obtain ⟨ad, cap, rfl, hc⟩ := Elems.any hl
  have HC : Hid _ := hc
  clear hc hl
  go_enter Try.func4, Try.ntmps4
  go_wp2_with fail
  refine (new_calls w).mono ?_
  rintro e w0 ⟨rfl, K0, b0⟩
  have HK0 : Hid _ := K0
  clear K0
  go_wp2
  go_loopw [4] (fun iv wr => ∃ k : Nat, k ≤ l.length ∧ k ≤ 100 ∧ iv = .int .i64 k ∧ Hid (∃ v, Bk wr w.heap.size w.heap.size v (runs l k)) ∧ Below w.heap.size w wr) (fun iv _ => 100 - (intOf iv).toNat)
  case atStart => exact ⟨0, Nat.zero_le _, Nat.zero_le _, rfl, ⟨_, HK0.out⟩, b0⟩
  case round =>
    obtain ⟨k, hk, hk100, rfl, HK, hb⟩ := hrel
    have hz := hb.size
    by_cases hlt : k < l.length
    · have hd : decide ((k : Int) < l.length) = true := by simp only [decide_eq_true_eq]; omega
      have hkl : (k : Int) < (l.length : Int) := by omega
      by_cases hlt2 : k < 100
      · have hd2 : decide ((k : Int) < 100) = true := by simp only [decide_eq_true_eq]; omega
        obtain ⟨a, ha⟩ : ∃ a, l[k]? = some a := ⟨l[k], by simp [hlt]⟩
        have hak := List.getElem?_eq_some_iff.1 ha
        obtain ⟨g, off, hpa, -, hgl, hcs, -⟩ := HC.out k hlt
        rw [hak.2] at hcs
        subst hpa
        obtain ⟨v, hKv⟩ := HK.out
        have HR : Hid _ := runs_succ ha
        obtain ⟨a0, x0, x1, x2, x3, x4, x5⟩ := a
        have key : ∀ j u, (acC (a0, x0, x1, x2, x3, x4, x5))[j]? = some u → wr.cell? ⟨g, off + k * 7 + j, none⟩ = some u := fun j u hu => (hb.cell (p := ⟨g, off + k * 7 + j, none⟩) hgl).trans (hcs j u hu)
        have d0 : wr.cell? ⟨g, off + k * 7, none⟩ = some (.int .i64 a0) := key 0 _ rfl
        have d1 : wr.cell? ⟨g, off + k * 7 + 1, none⟩ = some (.int .i64 x0) := key 1 _ rfl
        have d2 : wr.cell? ⟨g, off + k * 7 + 2, none⟩ = some (.int .i64 x1) := key 2 _ rfl
        have d3 : wr.cell? ⟨g, off + k * 7 + 3, none⟩ = some (.int .i64 x2) := key 3 _ rfl
        have d4 : wr.cell? ⟨g, off + k * 7 + 4, none⟩ = some (.int .i64 x3) := key 4 _ rfl
        have d5 : wr.cell? ⟨g, off + k * 7 + 5, none⟩ = some (.int .i64 x4) := key 5 _ rfl
        have d6 : wr.cell? ⟨g, off + k * 7 + 6, none⟩ = some (.bool x5) := key 6 _ rfl
        obtain ⟨W1, hW1, X1, B1, Z1⟩ : ∃ W1, (wr.alloc (.cells #[.int .i64 a0, .int .i64 x0, .int .i64 x1, .int .i64 x2, .int .i64 x3, .int .i64 x4, .bool x5] 35)) = W1 ∧ Blk W1 wr.heap.size #[.int .i64 a0, .int .i64 x0, .int .i64 x1, .int .i64 x2, .int .i64 x3, .int .i64 x4, .bool x5] 35 ∧ Below wr.heap.size wr W1 ∧ W1.heap.size = wr.heap.size + 1 :=
          ⟨_, rfl, blk_new _ _ _ _ rfl, by go_grown, by simp⟩
        have e0 : W1.cell? ⟨wr.heap.size, 0, none⟩ = some (.int .i64 a0) := X1.cell rfl
        have e1 : W1.cell? ⟨wr.heap.size, 1, none⟩ = some (.int .i64 x0) := X1.cell rfl
        have e2 : W1.cell? ⟨wr.heap.size, 2, none⟩ = some (.int .i64 x1) := X1.cell rfl
        have e3 : W1.cell? ⟨wr.heap.size, 3, none⟩ = some (.int .i64 x2) := X1.cell rfl
        have e4 : W1.cell? ⟨wr.heap.size, 4, none⟩ = some (.int .i64 x3) := X1.cell rfl
        have e5 : W1.cell? ⟨wr.heap.size, 5, none⟩ = some (.int .i64 x4) := X1.cell rfl
        have e6 : W1.cell? ⟨wr.heap.size, 6, none⟩ = some (.bool x5) := X1.cell rfl
        have K2 := hKv.below B1
        have B2 : Below w.heap.size w W1 := hb.trans (B1.mono hz)
        have zB2 := B2.size
        have HA : Hid _ := amend_calls x0 x1 x2 x3 W1 K2 zB2 _ rfl
        have HN : Hid _ := cancel_calls x0 x1 W1 K2 _ rfl
        have HCl : Hid _ := clear_calls W1 K2 zB2
        have HPt : Hid (Calls Try.prog 12 #[.pointer (some ⟨w.heap.size, 0, none⟩), .agg #[.int .i64 x0, .int .i64 x1, .int .i64 x2, .int .i64 x3, .int .i64 x4, .bool x5]] W1 fun e w' => e = .returned (.int .i64 ((runs l k).put (x0, x1, x2, x3, x4, x5)).1) ∧ ∃ v', Bst W1 w' w.heap.size w.heap.size v v' ((runs l k).put (x0, x1, x2, x3, x4, x5)).2) := put_calls (x0, x1, x2, x3, x4, x5) W1 K2 zB2 _ rfl
        have hbd := arnd_bd a0
        have HAE : Hid (arnd a0 = arnd a0) := rfl
        obtain ⟨ar, har⟩ : ∃ ar, arnd a0 = ar := ⟨_, rfl⟩
        rw [har] at hbd
        have HAR : Hid _ := har
        have HAC := around_calls a0 W1
        rw [har] at HAC
        have HK2 : Hid _ := K2
        clear key hcs ha hak hKv har X1 K2 HAE
        by_cases t2 : ar = 2
        · subst t2
          go_wp2_with fail
          refine HAC.mono ?_
          rintro e w2 ⟨rfl, rfl⟩
          go_wp2_with fail
          refine Calls.mono HA.out ?_
          rintro e w3 ⟨rfl, v3, S3⟩
          go_wp2
          refine ⟨⟨k + 1, by omega, by omega, by norm_cast, ⟨v3, ?_⟩, S3.below HK2.out B2 zB2⟩, by simp [intOf]; omega⟩
          rw [HR.out]
          unfold Bo.act
          rw [if_pos HAR.out]
          exact S3.bk
        · by_cases t3 : ar = 3
          · subst t3
            go_wp2_with fail
            refine HAC.mono ?_
            rintro e w2 ⟨rfl, rfl⟩
            go_wp2_with fail
            refine Calls.mono HN.out ?_
            rintro e w3 ⟨rfl, v3, S3⟩
            go_wp2
            refine ⟨⟨k + 1, by omega, by omega, by norm_cast, ⟨v3, ?_⟩, S3.below HK2.out B2 zB2⟩, by simp [intOf]; omega⟩
            rw [HR.out]
            unfold Bo.act
            rw [if_neg (by rw [HAR.out]; decide), if_pos HAR.out]
            exact S3.bk
          · by_cases t4 : ar = 4
            · subst t4
              go_wp2_with fail
              refine HAC.mono ?_
              rintro e w2 ⟨rfl, rfl⟩
              go_wp2_with fail
              refine Calls.mono HCl.out ?_
              rintro e w3 ⟨vF, v3, rfl, -, S3⟩
              go_wp2
              refine ⟨⟨k + 1, by omega, by omega, by norm_cast, ⟨v3, ?_⟩, S3.below HK2.out B2 zB2⟩, by simp [intOf]; omega⟩
              rw [HR.out]
              unfold Bo.act
              rw [if_neg (by rw [HAR.out]; decide), if_neg (by rw [HAR.out]; decide), if_pos HAR.out]
              exact S3.bk
            · have u2 : (ar == 2) = false := by simpa using t2
              have u3 : (ar == 3) = false := by simpa using t3
              have u4 : (ar == 4) = false := by simpa using t4
              go_wp2_with fail
              refine HAC.mono ?_
              rintro e w2 ⟨rfl, rfl⟩
              go_wp2_with fail
              refine Calls.mono HPt.out ?_
              rintro e w3 ⟨rfl, v3, S3⟩
              go_wp2
              refine ⟨⟨k + 1, by omega, by omega, by norm_cast, ⟨v3, ?_⟩, S3.below HK2.out B2 zB2⟩, by simp [intOf]; omega⟩
              rw [HR.out]
              unfold Bo.act
              rw [if_neg (by rw [HAR.out]; exact t2), if_neg (by rw [HAR.out]; exact t3), if_neg (by rw [HAR.out]; exact t4)]
              exact S3.bk
      · have hd2 : decide ((k : Int) < 100) = false := by simp only [decide_eq_false_iff_not]; omega
        have hk1 : k = 100 := by omega
        have HE : Hid _ := hk1
        clear hk1
        go_wp2
        go_ret
        obtain ⟨v, hKv⟩ := HK.out
        rw [HE.out] at hKv
        first | exact ⟨rfl, v, hKv, hb⟩ | exact ⟨rfl, ⟨v, hKv⟩, hb⟩
    · have hd : decide ((k : Int) < l.length) = false := by simp only [decide_eq_false_iff_not]; omega
      have hkl : ¬ (k : Int) < (l.length : Int) := by omega
      go_wp2
      go_ret
      obtain ⟨v, hKv⟩ := HK.out
      have e : runs l k = runs l 100 := by
        unfold runs
        rw [List.take_of_length_le (by omega), List.take_of_length_le (by omega)]
      rw [e] at hKv
      first | exact ⟨rfl, v, hKv, hb⟩ | exact ⟨rfl, ⟨v, hKv⟩, hb⟩
end Go.Proofs.Ytfeaifbeabmkhaa
