/- A book tells an order, or all. -/
import Derived.Test.YtglbfeccdibmiaaCaH
import Derived.Lib.SliceRun
namespace Go.Proofs.Ytglbfeccdibmiaa
open Go.Shelf Go.RowKit Go.Lib Go.Sort
set_option linter.unusedSimpArgs false
set_option linter.unusedVariables false
variable {base p : Nat} {v : Value} {B : Bo}

theorem oCA_same (a b : Od) : (oC a).toArray.size = (oC b).toArray.size := rfl
theorem oCA_one (o : Od) : (oC o).toArray.all (·.oneCell') = true := by simp [oC, Value.oneCell']
theorem fnd_cases (l : List Od) (x : Int) : (fnd l x = -1 ∧ ∀ o ∈ l, o.id ≠ x) ∨ ∃ (i : Nat) (o : Od), fnd l x = i ∧ l[i]? = some o ∧ o.id = x ∧ i < l.length := by
  unfold fnd ixf
  by_cases h : l.findIdx (fun o => o.id == x) < l.length
  · right
    refine ⟨_, l[l.findIdx (fun o => o.id == x)], by rw [if_pos h], by simp [h], ?_, h⟩
    have := List.findIdx_getElem (xs := l) (p := fun o => o.id == x) (w := h)
    simpa using this
  · left
    refine ⟨by rw [if_neg h], fun o ho e => h ?_⟩
    exact List.findIdx_lt_length_of_exists ⟨o, ho, by simpa using e⟩
/-- What Get tells. -/
def gtB (l : List Od) (x : Int) : Od × Bool := match l.find? (fun o => o.id == x) with
  | some o => (o, true)
  | none => ((0, 0, 0, 0, 0, false), false)
theorem gtB_none {l : List Od} {x : Int} (h : ∀ o ∈ l, o.id ≠ x) : gtB l x = ((0, 0, 0, 0, 0, false), false) := by
  unfold gtB
  rw [List.find?_eq_none.2 (fun o ho => by simpa using h o ho)]
theorem gtB_some {l : List Od} {x : Int} {i : Nat} {o : Od} (hf : fnd l x = i) (ho : l[i]? = some o) (hx : o.id = x) : gtB l x = (o, true) := by
  have hl := (List.getElem?_eq_some_iff.1 ho).1
  have e : l.findIdx (fun o => o.id == x) = i := by
    unfold fnd ixf at hf
    split at hf <;> omega
  have h2 : l.find? (fun o => o.id == x) = some o := by
    rw [List.find?_eq_some_iff_getElem]
    obtain ⟨h3, h4⟩ := List.getElem?_eq_some_iff.1 ho
    refine ⟨by simpa using hx, i, h3, h4, fun j hj => ?_⟩
    have := List.not_of_lt_findIdx (xs := l) (p := fun o => o.id == x) (i := j) (by omega)
    simpa using this
  unfold gtB
  rw [h2]

set_option maxHeartbeats 4000000 in
set_option maxRecDepth 100000 in
theorem get_calls (x : Int) (w : World) (h : Bk w base p v B) : Calls Try.prog 18 #[.pointer (some ⟨p, 0, none⟩), .int .i64 x] w fun e w' => e = .returned (.tuple #[.agg (oC (gtB B.os x).1).toArray, .bool (gtB B.os x).2]) ∧ Below w.heap.size w w' := by
  obtain ⟨W0, hW0, X0, B0, Z0⟩ : ∃ W0, (w.alloc (.cells #[.int .i64 0, .int .i64 0, .int .i64 0, .int .i64 0, .int .i64 0, .bool false] 31)) = W0 ∧ Blk W0 w.heap.size #[.int .i64 0, .int .i64 0, .int .i64 0, .int .i64 0, .int .i64 0, .bool false] 31 ∧ Below w.heap.size w W0 ∧ W0.heap.size = w.heap.size + 1 :=
    ⟨_, rfl, blk_new _ _ _ _ rfl, by go_grown, by simp⟩
  have h0 := h.below B0
  have hm := made_calls W0 h0
  have HF : Hid _ := find_calls x W0 h0
  rcases fnd_cases B.os x with ⟨h1, h2⟩ | ⟨i, o, h1, h2, h3, h4⟩
  · rw [h1] at HF
    rw [gtB_none h2]
    clear h1 h2 h
    go_enter Try.func18, Try.ntmps18
    go_wp2_with fail
    refine hm.mono ?_
    rintro e w1 ⟨rfl, rfl⟩
    go_wp2_with fail
    refine Calls.mono HF.out ?_
    rintro e w2 ⟨rfl, b2⟩
    have X2 : Blk w2 w.heap.size (oC (0, 0, 0, 0, 0, false)).toArray 31 := X0.below b2
    obtain ⟨W3, hW3, X3, H3, Z3, O3⟩ := setRow_named X2 (oC (0, 0, 0, 0, 0, false)).toArray
    have q0 : W3.cell? ⟨w.heap.size, 0, none⟩ = some (.int .i64 0) := X3.cell rfl
    have q1 : W3.cell? ⟨w.heap.size, 1, none⟩ = some (.int .i64 0) := X3.cell rfl
    have q2 : W3.cell? ⟨w.heap.size, 2, none⟩ = some (.int .i64 0) := X3.cell rfl
    have q3 : W3.cell? ⟨w.heap.size, 3, none⟩ = some (.int .i64 0) := X3.cell rfl
    have q4 : W3.cell? ⟨w.heap.size, 4, none⟩ = some (.int .i64 0) := X3.cell rfl
    have q5 : W3.cell? ⟨w.heap.size, 5, none⟩ = some (.bool false) := X3.cell rfl
    go_wp2_with ((with_reducible refine st_row (ty := 31) (cs' := (oC (0, 0, 0, 0, 0, false)).toArray) X2 (infoO6 _) (oCA_same _ _) (oCA_one _) hW3 ?_ ?_ ?_); rfl; rfl)
    refine bodyPost_ret (v := .tuple #[.agg (oC (0, 0, 0, 0, 0, false)).toArray, .bool false]) (by simp [results, Try.results18, go_sem, q0, q1, q2, q3, q4, q5]; rfl) rfl ⟨rfl, ?_⟩
    exact below_row (B0.trans (b2.mono (by omega))) hW3 (Nat.le_refl _)
  · rw [h1] at HF
    rw [gtB_some h1 h2 h3]
    have HO : Hid _ := h2
    obtain ⟨oc, ocap, rfl⟩ := own_form h.row
    clear h1 h2 h3 h
    go_enter Try.func18, Try.ntmps18
    go_wp2_with fail
    refine hm.mono ?_
    rintro e w1 ⟨rfl, rfl⟩
    go_wp2_with fail
    refine Calls.mono HF.out ?_
    rintro e w2 ⟨rfl, b2⟩
    have X2 : Blk w2 w.heap.size (oC (0, 0, 0, 0, 0, false)).toArray 31 := X0.below b2
    have K2 := h0.below b2
    have c1 : w2.cell? ⟨p, 1, none⟩ = some (.slice oc B.os.length ocap) := K2.blk.cell rfl
    obtain ⟨pp, cap, hv, hcs⟩ := K2.ods
    injection hv with hv1 hv2 hv3
    clear hv2
    subst hv1 hv3
    rcases hcs with hnil | ⟨gb, off, hp, hcs⟩
    · exfalso; rw [hnil] at h4; simp at h4
    subst hp
    obtain ⟨d0, d1, d2, d3, d4, d5⟩ := Ods.six hcs HO.out
    obtain ⟨W3, hW3, X3, H3, Z3, O3⟩ := setRow_named X2 (oC o).toArray
    have q0 : W3.cell? ⟨w.heap.size, 0, none⟩ = some (.int .i64 o.id) := X3.cell rfl
    have q1 : W3.cell? ⟨w.heap.size, 1, none⟩ = some (.int .i64 o.own) := X3.cell rfl
    have q2 : W3.cell? ⟨w.heap.size, 2, none⟩ = some (.int .i64 o.pr) := X3.cell rfl
    have q3 : W3.cell? ⟨w.heap.size, 3, none⟩ = some (.int .i64 o.am) := X3.cell rfl
    have q4 : W3.cell? ⟨w.heap.size, 4, none⟩ = some (.int .i64 o.pl) := X3.cell rfl
    have q5 : W3.cell? ⟨w.heap.size, 5, none⟩ = some (.bool o.by) := X3.cell rfl
    have hi0 : ¬ (i : Int) < 0 := by omega
    have hi1 : (i : Int) < (B.os.length : Int) := by omega
    clear hcs
    go_wp2_with ((with_reducible refine st_row (ty := 31) (cs' := (oC o).toArray) X2 (infoO6 _) (oCA_same _ _) (oCA_one _) hW3 ?_ ?_ ?_); rfl; rfl)
    refine bodyPost_ret (v := .tuple #[.agg (oC o).toArray, .bool true]) (by simp [results, Try.results18, go_sem, q0, q1, q2, q3, q4, q5]; rfl) rfl ⟨rfl, ?_⟩
    exact below_row (B0.trans (b2.mono (by omega))) hW3 (Nat.le_refl _)

set_option maxHeartbeats 4000000 in
set_option maxRecDepth 100000 in
theorem clone_calls (v : Value) (l : List Od) (w : World) (hv : w.ownsRow base 31 6 v l.length (odL l)) (hn : l.length ≤ 1000000) :
    Calls Try.prog 40 #[v] w fun e w' => ∃ v', e = .returned v' ∧ w'.ownsRow w.heap.size 31 6 v' l.length (odL l) ∧ Below w.heap.size w w' := by
  obtain ⟨i0, hi, hz0, hz1, hz2⟩ := info_parts infoO
  rcases hv.2 with ⟨rfl, h0⟩ | ⟨g, cap, cur, rfl, hg, hB, hnc, hcm, hcs, ht⟩
  · have hl : l = [] := List.eq_nil_of_length_eq_zero h0
    subst hl
    have hq : ∀ w, (binOp .eql 25 (.slice none 0 0) (.slice none 0 0)).run Try.prog w = .ok (.bool true) w := fun w => Lib.run_eql_slice_nil w 25 31 none 0 0 0 0 Try.underlying25
    go_enter Try.func40, Try.ntmps40
    go_wp2
    go_ret
    exact ⟨_, rfl, World.ownsRow_nil _ _ _ _, Below.refl _ _⟩
  · have HB : Hid (Blk w g cur 31) := hB
    have HT : Hid (cur.toList.take (l.length * 6) = odL l) := ht
    clear hB ht hcs hv
    have hq : ∀ w, (binOp .eql 25 (.slice (some ⟨g, 0, none⟩) l.length cap) (.slice none 0 0)).run Try.prog w = .ok (.bool false) w := fun w => Lib.run_eql_slice_nil w 25 31 (some ⟨g, 0, none⟩) l.length cap 0 0 Try.underlying25
    go_enter Try.func40, Try.ntmps40
    go_wp2_with (at_builtin; refine wpList_append_own _ rfl (.tmp 5) (.tmp 6) 25 rfl w.heap.size 31 i0 (.agg #[.int .i64 0, .int .i64 0, .int .i64 0, .int .i64 0, .int .i64 0, .bool false]) 6 48 Try.underlying25 hi hz0 hz1 hz2 rfl (by decide) _ 0 [] rfl (World.ownsRow_made w #[] 0 (Nat.le_refl _) (by decide) rfl) ⟨g, 0, none⟩ l.length cap (odL l) rfl (odL_len l) ?c1 ?c2 ?c3 ?c4 ?c5 ?_)
    case c1 =>
      intro j u hj
      have hjl : j < l.length * 6 := by have := (List.getElem?_eq_some_iff.1 hj).1; rw [odL_len] at this; exact this
      first
        | rw [Addr.add_lit]
        | skip
      rw [← HT.out, List.getElem?_take, if_pos hjl] at hj
      have hc := Blk.cell (w := w) (k := g) (o := j) (cs := cur) (t := 31) (v := u) HB.out (by simpa using hj)
      have hc2 := (((Below.refl w.heap.size w).alloc (Nat.le_refl _) (.cells #[] 31)).cell (p := ⟨g, j, none⟩) (Blk.lt HB.out)).trans hc
      simpa using hc2
    case c2 => exact odL_one l
    case c3 => unfold maxLen; omega
    case c4 => omega
    case c5 => simp
    intro v' w6 ho' hg' _
    have HO6 : Hid _ := ho'
    clear ho'
    go_wp2
    go_ret
    refine ⟨v', rfl, ?_, belG ((Below.refl _ _).alloc (Nat.le_refl _) _) hg' (fun q hq => by simp [Value.ownBlock] at hq; omega) (by simp)⟩
    have := HO6.out
    exact this
set_option maxHeartbeats 1000000 in
set_option maxRecDepth 100000 in
theorem orders_calls (w : World) (h : Bk w base p v B) : Calls Try.prog 21 #[.pointer (some ⟨p, 0, none⟩)] w fun e w' => ∃ v', e = .returned v' ∧ w'.ownsRow w.heap.size 31 6 v' B.os.length (odL B.os) ∧ Below w.heap.size w w' := by
  have hm := made_calls w h
  have c1 : w.cell? ⟨p, 1, none⟩ = some v := h.blk.cell rfl
  have HC : Hid _ := clone_calls v B.os w h.row (by have := h.inv.len; omega)
  obtain ⟨oc, ocap, rfl⟩ := own_form h.row
  clear h
  go_enter Try.func21, Try.ntmps21
  go_wp2_with fail
  refine hm.mono ?_
  rintro e w1 ⟨rfl, rfl⟩
  go_wp2_with fail
  refine Calls.mono HC.out ?_
  rintro e w2 ⟨v2, rfl, own2, b2⟩
  have HO2 : Hid _ := own2
  clear own2
  go_wp2
  go_ret
  exact ⟨v2, rfl, HO2.out, b2⟩
end Go.Proofs.Ytglbfeccdibmiaa
