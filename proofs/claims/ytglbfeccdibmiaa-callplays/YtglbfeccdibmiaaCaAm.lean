/- An order taken out of a book's row; whose order it is. -/
import Derived.Test.YtglbfeccdibmiaaCaR
namespace Go.Proofs.Ytglbfeccdibmiaa
open Go.Shelf Go.RowKit Go.Lib Go.Sort
set_option linter.unusedSimpArgs false
set_option linter.unusedVariables false
variable {base p : Nat} {v : Value} {B : Bo}

set_option maxRecDepth 100000 in
/-- The rest of a row moved one to the left. -/
theorem own_shift {w : World} {g cap n : Nat} {l : List Od} (h : w.ownsRow base 31 6 (.slice (some ⟨g, 0, none⟩) n cap) n (odL l)) (hl : l.length = n) (i : Nat) (hi : i < n) (ad : Addr) (c : Nat) (ty : TypeId) (hn : n ≤ 1000000)
    (had : ad = ⟨g, (i + 1) * 6, none⟩ ∨ n - (i + 1) = 0) :
    ∃ W, (Builtin.append_ #[25, 25] ty #[.slice (some ⟨g, 0, none⟩) i cap, .slice (some ad) (n - (i + 1)) c]).run Try.prog w = .ok (.slice (some ⟨g, 0, none⟩) (n - 1) cap) W ∧ W.ownsRow base 31 6 (.slice (some ⟨g, 0, none⟩) n cap) n (odL (l.eraseIdx i ++ l.drop (n - 1))) ∧ Off g w W := by
  obtain ⟨i0, hi0, hz0, hz1, hz2⟩ := info_parts infoO
  rcases h.2 with ⟨h1, _⟩ | ⟨g', cap', cur, h1, hb, hB, hnc, hcm, hcs, ht⟩
  · cases h1
  · injection h1 with h1 h2 h3
    injection h1 with h1
    injection h1 with h1
    subst h1 h3
    have hB' : w.heap[g]? = some (.cells cur 31 (0, 0)) := hB
    have hle : n * 6 ≤ cap * 6 := Nat.mul_le_mul_right _ hnc
    have hdl : (l.drop (i + 1)).length = n - (i + 1) := by rw [List.length_drop, hl]
    have hcells := h.cells (g := g) rfl
    have hrun := run_append_room (P := Try.prog) w 25 ty 31 i0 Try.underlying25 hi0 g i cap cur hB' ad (n - (i + 1)) c (odL (l.drop (i + 1))) (by rw [odL_len, hdl, hz1]) (by
      intro j u hj
      have hjl : j < (n - (i + 1)) * 6 := by have := (List.getElem?_eq_some_iff.1 hj).1; rw [odL_len, hdl] at this; exact this
      rcases had with e | e
      · subst e
        have hj2 : (odL l)[(i + 1) * 6 + j]? = some u := by
          have e2 : odL l = odL (l.take (i + 1)) ++ odL (l.drop (i + 1)) := by rw [← odL_app, List.take_append_drop]
          rw [e2, List.getElem?_append_right (by rw [odL_len, List.length_take]; omega), odL_len, List.length_take, Nat.min_eq_left (by omega), Nat.add_sub_cancel_left]
          exact hj
        have := hcells _ u hj2
        rw [Addr.add_lit, Nat.zero_add] at this
        rw [Addr.add_lit]
        exact this
      · omega) (odL_one _) (by omega) (by rw [odL_len, hdl, hz1, hcs]; omega)
    rw [show i + (n - (i + 1)) = n - 1 by omega, hz1] at hrun
    refine ⟨_, hrun, ⟨?_, Or.inr ⟨g, cap, _, rfl, hb, setRow_heap w g cur _ _ (0, 0) hB', hnc, hcm, ?_, ?_⟩⟩, (Off.refl _ _).setRow _⟩
    · rw [odL_len, List.length_append, List.length_eraseIdx_of_lt (by omega), List.length_drop, hl]
      congr 1; omega
    · simp only [List.size_toArray, List.length_append, List.length_take, List.length_drop, Array.length_toList, odL_len, hdl, hl]
      omega
    · show List.take (n * 6) (cur.toList.take (i * 6) ++ odL (l.drop (i + 1)) ++ cur.toList.drop (i * 6 + (odL (l.drop (i + 1))).length)) = _
      have t1 : cur.toList.take (i * 6) = odL (l.take i) := by
        have : (cur.toList.take (n * 6)).take (i * 6) = odL (l.take i) := by
          rw [ht]
          conv => lhs; rw [← List.take_append_drop i l, odL_app]
          rw [List.take_left' (by rw [odL_len, List.length_take]; congr 1; omega)]
        rwa [List.take_take, Nat.min_eq_left (by omega)] at this
      have t2 : (cur.toList.drop ((n - 1) * 6)).take 6 = odL (l.drop (n - 1)) := by
        have : (cur.toList.take (n * 6)).drop ((n - 1) * 6) = odL (l.drop (n - 1)) := by
          rw [ht]
          conv => lhs; rw [← List.take_append_drop (n - 1) l, odL_app]
          rw [List.drop_left' (by rw [odL_len, List.length_take]; congr 1; omega)]
        rw [List.drop_take] at this
        rw [← this]
        congr 1; omega
      have e6 : i * 6 + (odL (l.drop (i + 1))).length = (n - 1) * 6 := by rw [odL_len, hdl]; omega
      rw [e6, t1, ← odL_app, ← List.eraseIdx_eq_take_drop_succ, List.take_append, List.take_of_length_le (by rw [odL_len, List.length_eraseIdx_of_lt (by omega)]; omega)]
      rw [odL_len, List.length_eraseIdx_of_lt (by omega), hl, show n * 6 - (n - 1) * 6 = 6 by omega, t2, odL_app]
/-- What owned tells: where, and why not. -/
def Bo.ownd (B : Bo) (id own : Int) : Int := if fnd B.os id < 0 then 3 else if (gtB B.os id).1.own = own then 0 else 80

set_option maxHeartbeats 2000000 in
set_option maxRecDepth 100000 in
theorem owned_none (x y : Int) (w : World) (h : Bk w base p v B) (hf : fnd B.os x = -1) : Calls Try.prog 27 #[.pointer (some ⟨p, 0, none⟩), .int .i64 x, .int .i64 y] w fun e w' => e = .returned (.tuple #[.int .i64 0, .int .i64 3]) ∧ Below w.heap.size w w' := by
  have hm := made_calls w h
  have HF : Hid _ := find_calls x w h
  rw [hf] at HF
  clear h hf
  go_enter Try.func27, Try.ntmps27
  go_wp2_with fail
  refine hm.mono ?_
  rintro e w1 ⟨rfl, rfl⟩
  go_wp2_with fail
  refine Calls.mono HF.out ?_
  rintro e w2 ⟨rfl, b2⟩
  go_wp2
  go_ret2
  exact ⟨rfl, b2⟩
set_option maxHeartbeats 2000000 in
set_option maxRecDepth 100000 in
theorem owned_some (x y : Int) (w : World) (h : Bk w base p v B) (i : Nat) (o : Od) (hf : fnd B.os x = i) (ho : B.os[i]? = some o) (r : Int × Int) (hr : r = if o.own = y then ((i : Int), 0) else (0, 80)) : Calls Try.prog 27 #[.pointer (some ⟨p, 0, none⟩), .int .i64 x, .int .i64 y] w fun e w' => e = .returned (.tuple #[.int .i64 r.1, .int .i64 r.2]) ∧ Below w.heap.size w w' := by
  have hm := made_calls w h
  have HF : Hid _ := find_calls x w h
  rw [hf] at HF
  have h4 : i < B.os.length := (List.getElem?_eq_some_iff.1 ho).1
  have HO : Hid _ := ho
  have HH : Hid _ := h
  obtain ⟨oc, ocap, rfl⟩ := own_form h.row
  have hi0 : ¬ (i : Int) < 0 := by omega
  have hi1 : (i : Int) < (B.os.length : Int) := by omega
  by_cases hy : o.own = y
  · rw [if_pos hy] at hr
    subst hr
    have hq : (o.own == y) = true := by simpa using hy
    clear h hf ho hy
    go_enter Try.func27, Try.ntmps27
    go_wp2_with fail
    refine hm.mono ?_
    rintro e w1 ⟨rfl, rfl⟩
    go_wp2_with fail
    refine Calls.mono HF.out ?_
    rintro e w2 ⟨rfl, b2⟩
    have K2 := Bk.below HH.out b2
    have c1 : w2.cell? ⟨p, 1, none⟩ = some (.slice oc B.os.length ocap) := K2.blk.cell rfl
    obtain ⟨pp, cap, hv, hcs⟩ := K2.ods
    injection hv with hv1 hv2 hv3
    clear hv2
    subst hv1 hv3
    rcases hcs with hnil | ⟨gb, off, hp, hcs⟩
    · exfalso; rw [hnil] at h4; simp at h4
    subst hp
    obtain ⟨d0, d1, d2, d3, d4, d5⟩ := Ods.six hcs HO.out
    clear hcs
    go_wp2
    go_ret2
    exact ⟨rfl, b2⟩
  · rw [if_neg hy] at hr
    subst hr
    have hq : (o.own == y) = false := by simpa using hy
    clear h hf ho
    go_enter Try.func27, Try.ntmps27
    go_wp2_with fail
    refine hm.mono ?_
    rintro e w1 ⟨rfl, rfl⟩
    go_wp2_with fail
    refine Calls.mono HF.out ?_
    rintro e w2 ⟨rfl, b2⟩
    have K2 := Bk.below HH.out b2
    have c1 : w2.cell? ⟨p, 1, none⟩ = some (.slice oc B.os.length ocap) := K2.blk.cell rfl
    obtain ⟨pp, cap, hv, hcs⟩ := K2.ods
    injection hv with hv1 hv2 hv3
    clear hv2
    subst hv1 hv3
    rcases hcs with hnil | ⟨gb, off, hp, hcs⟩
    · exfalso; rw [hnil] at h4; simp at h4
    subst hp
    obtain ⟨d0, d1, d2, d3, d4, d5⟩ := Ods.six hcs HO.out
    clear hcs
    go_wp2
    go_ret2
    exact ⟨rfl, b2⟩

end Go.Proofs.Ytglbfeccdibmiaa
