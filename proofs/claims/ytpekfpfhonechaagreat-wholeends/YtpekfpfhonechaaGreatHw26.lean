/- A clearing buys as much as it sells; what each order gets: as plain data. -/
import Derived.Test.YtpekfpfhonechaaGreatHw25
namespace Go.Proofs.YtpekfpfhonechaaGreat.Cal
open Go.Sort
set_option linter.unusedSimpArgs false
set_option linter.unusedVariables false

/-- All pieces of fills. -/
def totF : List Fi → Int
  | [] => 0
  | f :: l => f.2.2 + totF l
theorem fll_tot : ∀ (s : List Od) (n : Int), (∀ o ∈ s, 1 ≤ o.am) → 0 ≤ n → totF (fll s n) = min (amt s) n
  | [], n, h, hn => by simp only [fll, totF, amt]; omega
  | o :: s, n, h, hn => by
    have ho := h o (List.mem_cons_self ..)
    have hs := amt_nn s (fun q hq => h q (List.mem_cons_of_mem _ hq))
    rw [fll]
    split
    · rename_i hm
      simp only [totF, amt]
      omega
    · rw [totF, fll_tot s _ (fun q hq => h q (List.mem_cons_of_mem _ hq)) (by omega), amt]
      show min o.am n + min (amt s) (n - min o.am n) = min (o.am + amt s) n
      omega
/-- What a fill adds to a side. -/
def sdR (b : Bool) (f : Fi) : List Od → Int
  | [] => 0
  | o :: l => (if o.id = f.1 ∧ o.by = b then f.2.2 else 0) + sdR b f l
def sdS (os : List Od) (b : Bool) : List Fi → Int
  | [] => 0
  | f :: l => sdR b f os + sdS os b l
theorem sdS_app (os : List Od) (b : Bool) : ∀ l m : List Fi, sdS os b (l ++ m) = sdS os b l + sdS os b m
  | [], m => by simp [sdS]
  | f :: l, m => by simp only [List.cons_append, sdS, sdS_app os b l m]; omega
theorem sdR_none (b : Bool) (f : Fi) : ∀ l : List Od, (∀ o ∈ l, o.id ≠ f.1) → sdR b f l = 0
  | [], _ => rfl
  | o :: l, h => by
    rw [sdR, if_neg (fun e => h o (List.mem_cons_self ..) e.1), sdR_none b f l (fun q hq => h q (List.mem_cons_of_mem _ hq))]
    rfl
theorem sdR_one (b : Bool) (f : Fi) (o : Od) (hf : f.1 = o.id) : ∀ l : List Od, l.Pairwise (fun a b => a.id ≠ b.id) → o ∈ l → sdR b f l = if o.by = b then f.2.2 else 0
  | [], _, h => by cases h
  | q :: l, hp, h => by
    obtain ⟨h1, h2⟩ := List.pairwise_cons.1 hp
    rw [sdR]
    rcases List.mem_cons.1 h with e | e
    · subst e
      rw [sdR_none b f l (fun r hr e => h1 r hr (by rw [e, hf]))]
      by_cases hb : o.by = b
      · rw [if_pos ⟨hf.symm, hb⟩, if_pos hb]; omega
      · rw [if_neg (fun e => hb e.2), if_neg hb]; rfl
    · rw [sdR_one b f o hf l h2 e, if_neg (fun e2 => h1 o e (by rw [e2.1, hf]))]
      omega
variable {B : Bo}
theorem sdS_side (h : BInv B) (b c : Bool) : ∀ l : List Fi, (∀ f ∈ l, ∃ o ∈ B.os, f.1 = o.id ∧ o.by = c) → sdS B.os b l = if c = b then totF l else 0
  | [], _ => by simp [sdS, totF]
  | f :: l, hl => by
    obtain ⟨o, ho, hf, hc⟩ := hl f (List.mem_cons_self ..)
    rw [sdS, sdR_one b f o hf B.os h.ids ho, sdS_side h b c l (fun g hg => hl g (List.mem_cons_of_mem _ hg)), hc, totF]
    split <;> omega
theorem fll_side (g : Od → Bool) (lt : Od → Od → Bool) (n : Int) {f : Fi} (hf : f ∈ fll (stab lt (B.os.filter g)) n) : ∃ o ∈ B.os, g o = true ∧ f.1 = o.id ∧ f.2.1 = o.own ∧ 0 < f.2.2 ∧ f.2.2 ≤ o.am := by
  obtain ⟨o, ho, h1⟩ := fll_mem _ _ f hf
  have := (stab_perm (lt := lt) (B.os.filter g)).mem_iff.1 ho
  obtain ⟨h2, h3⟩ := List.mem_filter.1 this
  exact ⟨o, h2, h3, h1⟩
theorem crs_nn (h : BInv B) : 0 ≤ (crs B.os).2 := by
  have h1 := (crs_most h.may 0).1
  have h2 := trd_nn h.may 0
  unfold crs
  rw [jdg_book h]
  omega
theorem side_true (h : BInv B) (b : Bool) : sdS B.os b B.fl = (crs B.os).2 := by
  have hn := crs_nn h
  have hh := crs_hits h.may
  have e0 : (crs B.os) = B.os.foldl (crS B.os) (0, 0) := by unfold crs; rw [jdg_book h]
  rw [← e0] at hh
  unfold Bo.fl fills
  rw [jdg_book h, sdS_app]
  have a1 : ∀ o ∈ B.os, 1 ≤ o.am := fun o ho => may_am1 (h.may o ho)
  have k1 : ∀ (g : Od → Bool) (lt : Od → Od → Bool), totF (fll (stab lt (B.os.filter g)) (crs B.os).2) = min (amt (B.os.filter g)) (crs B.os).2 := fun g lt => by
    rw [fll_tot _ _ (fun o ho => a1 o (List.mem_filter.1 ((stab_perm (lt := lt) (B.os.filter g)).mem_iff.1 ho)).1) hn, amt_perm (stab_perm _)]
  have k2 : ∀ g : Od → Bool, 0 ≤ amt (B.os.filter g) := fun g => amt_nn _ (fun o ho => a1 o (List.mem_filter.1 ho).1)
  have kb := k2 (bAt (crs B.os).1)
  have ks := k2 (sAt (crs B.os).1)
  have ht : 0 < (crs B.os).2 → min (amt (B.os.filter (bAt (crs B.os).1))) (amt (B.os.filter (sAt (crs B.os).1))) = (crs B.os).2 := hh.1
  rw [sdS_side h b true _ (fun f hf => by
    obtain ⟨o, ho, hg, h1, _⟩ := fll_side _ _ _ hf
    exact ⟨o, ho, h1, by unfold bAt at hg; simp at hg; exact hg.1⟩), sdS_side h b false _ (fun f hf => by
    obtain ⟨o, ho, hg, h1, _⟩ := fll_side _ _ _ hf
    exact ⟨o, ho, h1, by unfold sAt at hg; simp at hg; exact hg.1⟩), k1, k1]
  generalize (crs B.os).2 = n at *
  generalize amt (B.os.filter (bAt (crs B.os).1)) = p at *
  generalize amt (B.os.filter (sAt (crs B.os).1)) = q at *
  cases b
  · simp only [Bool.true_eq_false, if_false, if_true]
    by_cases h0 : 0 < n
    · have := ht h0; omega
    · omega
  · simp only [Bool.false_eq_true, if_false, if_true]
    by_cases h0 : 0 < n
    · have := ht h0; omega
    · omega
/-- What a fill of an order keeps to. -/
theorem fl_of (h : BInv B) {f : Fi} (hf : f ∈ B.fl) {o : Od} (ho : o ∈ B.os) (e : f.1 = o.id) : 1 ≤ f.2.2 ∧ f.2.2 ≤ o.am ∧ f.2.1 = o.own ∧ (o.by = true → (crs B.os).1 ≤ o.pr) ∧ (o.by = false → o.pr ≤ (crs B.os).1) := by
  unfold Bo.fl fills at hf
  rw [jdg_book h] at hf
  rcases List.mem_append.1 hf with hf | hf
  · obtain ⟨q, hq, hg, h1, h2, h3, h4⟩ := fll_side _ _ _ hf
    obtain rfl := h.same hq ho (by rw [← h1, e])
    unfold bAt at hg
    simp only [Bool.and_eq_true, decide_eq_true_eq] at hg
    exact ⟨by omega, h4, h2, fun _ => hg.2, fun e => by rw [hg.1] at e; cases e⟩
  · obtain ⟨q, hq, hg, h1, h2, h3, h4⟩ := fll_side _ _ _ hf
    obtain rfl := h.same hq ho (by rw [← h1, e])
    unfold sAt at hg
    simp only [Bool.and_eq_true, Bool.not_eq_true', decide_eq_true_eq] at hg
    exact ⟨by omega, h4, h2, (fun e => by rw [hg.1] at e; cases e), fun _ => hg.2⟩
theorem fl_am (h : BInv B) {f : Fi} (hf : f ∈ B.fl) : 0 ≤ f.2.2 ∧ f.2.2 ≤ 1048576 := by
  obtain ⟨o, ho, h1, h2, h3, h4⟩ := fills_mem h hf
  have := h.may o ho
  unfold mayB at this
  simp only [Bool.and_eq_true, decide_eq_true_eq] at this
  omega
end Go.Proofs.YtpekfpfhonechaaGreat.Cal

namespace Go.Proofs.YtpekfpfhonechaaGreat.Cal
open Go.Shelf Go.RowKit Go.Lib Go.Sort
set_option linter.unusedSimpArgs false
set_option linter.unusedVariables false
variable {base p : Nat} {v : Value} {B : Bo}

set_option maxRecDepth 100000 in
/-- The rest of a row moved one to the left. -/
theorem own_shift {w : World} {g cap n : Nat} {l : List Od} (h : w.ownsRow base 51 6 (.slice (some ⟨g, 0, none⟩) n cap) n (odL l)) (hl : l.length = n) (i : Nat) (hi : i < n) (ad : Addr) (c : Nat) (ty : TypeId) (hn : n ≤ 1000000)
    (had : ad = ⟨g, (i + 1) * 6, none⟩ ∨ n - (i + 1) = 0) :
    ∃ W, (Builtin.append_ #[48, 48] ty #[.slice (some ⟨g, 0, none⟩) i cap, .slice (some ad) (n - (i + 1)) c]).run Tryz.prog w = .ok (.slice (some ⟨g, 0, none⟩) (n - 1) cap) W ∧ W.ownsRow base 51 6 (.slice (some ⟨g, 0, none⟩) n cap) n (odL (l.eraseIdx i ++ l.drop (n - 1))) ∧ Off g w W := by
  obtain ⟨i0, hi0, hz0, hz1, hz2⟩ := info_parts infoO
  rcases h.2 with ⟨h1, _⟩ | ⟨g', cap', cur, h1, hb, hB, hnc, hcm, hcs, ht⟩
  · cases h1
  · injection h1 with h1 h2 h3
    injection h1 with h1
    injection h1 with h1
    subst h1 h3
    have hB' : w.heap[g]? = some (.cells cur 51 (0, 0)) := hB
    have hle : n * 6 ≤ cap * 6 := Nat.mul_le_mul_right _ hnc
    have hdl : (l.drop (i + 1)).length = n - (i + 1) := by rw [List.length_drop, hl]
    have hcells := h.cells (g := g) rfl
    have hrun := run_append_room (P := Tryz.prog) w 48 ty 51 i0 Tryz.underlying48 hi0 g i cap cur hB' ad (n - (i + 1)) c (odL (l.drop (i + 1))) (by rw [odL_len, hdl, hz1]) (by
      intro j u hj
      have hjl : j < (n - (i + 1)) * 6 := by have := (List.getElem?_eq_some_iff.1 hj).1; rw [odL_len, hdl] at this; exact this
      rcases had with e | e
      · subst e
        have hj2 : (odL l)[(i + 1) * 6 + j]? = some u := by
          have e2 : odL l = odL (l.take (i + 1)) ++ odL (l.drop (i + 1)) := by rw [← odL_app, List.take_append_drop]
          rw [e2, List.getElem?_append_right (by rw [odL_len, List.length_take]; omega), odL_len, List.length_take, Nat.min_eq_left (by omega), Nat.add_sub_cancel_left]
          exact hj
        have := hcells _ u hj2
        rw [Addr.add_lit, Nat.zero_add] at this
        rw [Addr.add_lit]
        exact this
      · omega) (odL_one _) (by omega) (by rw [odL_len, hdl, hz1, hcs]; omega)
    rw [show i + (n - (i + 1)) = n - 1 by omega, hz1] at hrun
    refine ⟨_, hrun, ⟨?_, Or.inr ⟨g, cap, _, rfl, hb, setRow_heap w g cur _ _ (0, 0) hB', hnc, hcm, ?_, ?_⟩⟩, (Off.refl _ _).setRow _⟩
    · rw [odL_len, List.length_append, List.length_eraseIdx_of_lt (by omega), List.length_drop, hl]
      congr 1; omega
    · simp only [List.size_toArray, List.length_append, List.length_take, List.length_drop, Array.length_toList, odL_len, hdl, hl]
      omega
    · show List.take (n * 6) (cur.toList.take (i * 6) ++ odL (l.drop (i + 1)) ++ cur.toList.drop (i * 6 + (odL (l.drop (i + 1))).length)) = _
      have t1 : cur.toList.take (i * 6) = odL (l.take i) := by
        have : (cur.toList.take (n * 6)).take (i * 6) = odL (l.take i) := by
          rw [ht]
          conv => lhs; rw [← List.take_append_drop i l, odL_app]
          rw [List.take_left' (by rw [odL_len, List.length_take]; congr 1; omega)]
        rwa [List.take_take, Nat.min_eq_left (by omega)] at this
      have t2 : (cur.toList.drop ((n - 1) * 6)).take 6 = odL (l.drop (n - 1)) := by
        have : (cur.toList.take (n * 6)).drop ((n - 1) * 6) = odL (l.drop (n - 1)) := by
          rw [ht]
          conv => lhs; rw [← List.take_append_drop (n - 1) l, odL_app]
          rw [List.drop_left' (by rw [odL_len, List.length_take]; congr 1; omega)]
        rw [List.drop_take] at this
        rw [← this]
        congr 1; omega
      have e6 : i * 6 + (odL (l.drop (i + 1))).length = (n - 1) * 6 := by rw [odL_len, hdl]; omega
      rw [e6, t1, ← odL_app, ← List.eraseIdx_eq_take_drop_succ, List.take_append, List.take_of_length_le (by rw [odL_len, List.length_eraseIdx_of_lt (by omega)]; omega)]
      rw [odL_len, List.length_eraseIdx_of_lt (by omega), hl, show n * 6 - (n - 1) * 6 = 6 by omega, t2, odL_app]
set_option maxHeartbeats 2000000 in
set_option maxRecDepth 100000 in
theorem owned_none (x y : Int) (w : World) (h : Bk w base p v B) (hf : fnd B.os x = -1) : Calls Tryz.prog 114 #[.pointer (some ⟨p, 0, none⟩), .int .i64 x, .int .i64 y] w fun e w' => e = .returned (.tuple #[.int .i64 0, .int .i64 3]) ∧ Below w.heap.size w w' := by
  have hm := made_calls w h
  have HF : Hid _ := find_calls x w h
  rw [hf] at HF
  clear h hf
  go_enter Tryz.func114, Tryz.ntmps114
  go_wp2_with fail
  refine hm.mono ?_
  rintro e w1 ⟨rfl, rfl⟩
  go_wp2_with fail
  refine Calls.mono HF.out ?_
  rintro e w2 ⟨rfl, b2⟩
  go_wp2
  go_ret2
  exact ⟨rfl, b2⟩
set_option maxHeartbeats 2000000 in
set_option maxRecDepth 100000 in
theorem owned_some (x y : Int) (w : World) (h : Bk w base p v B) (i : Nat) (o : Od) (hf : fnd B.os x = i) (ho : B.os[i]? = some o) (r : Int × Int) (hr : r = if o.own = y then ((i : Int), 0) else (0, 80)) : Calls Tryz.prog 114 #[.pointer (some ⟨p, 0, none⟩), .int .i64 x, .int .i64 y] w fun e w' => e = .returned (.tuple #[.int .i64 r.1, .int .i64 r.2]) ∧ Below w.heap.size w w' := by
  have hm := made_calls w h
  have HF : Hid _ := find_calls x w h
  rw [hf] at HF
  have h4 : i < B.os.length := (List.getElem?_eq_some_iff.1 ho).1
  have HO : Hid _ := ho
  have HH : Hid _ := h
  obtain ⟨oc, ocap, rfl⟩ := own_form h.row
  have hi0 : ¬ (i : Int) < 0 := by omega
  have hi1 : (i : Int) < (B.os.length : Int) := by omega
  by_cases hy : o.own = y
  · rw [if_pos hy] at hr
    subst hr
    have hq : (o.own == y) = true := by simpa using hy
    clear h hf ho hy
    go_enter Tryz.func114, Tryz.ntmps114
    go_wp2_with fail
    refine hm.mono ?_
    rintro e w1 ⟨rfl, rfl⟩
    go_wp2_with fail
    refine Calls.mono HF.out ?_
    rintro e w2 ⟨rfl, b2⟩
    have K2 := Bk.below HH.out b2
    have c1 : w2.cell? ⟨p, 1, none⟩ = some (.slice oc B.os.length ocap) := K2.blk.cell rfl
    obtain ⟨pp, cap, hv, hcs⟩ := K2.ods
    injection hv with hv1 hv2 hv3
    clear hv2
    subst hv1 hv3
    rcases hcs with hnil | ⟨gb, off, hp, hcs⟩
    · exfalso; rw [hnil] at h4; simp at h4
    subst hp
    obtain ⟨d0, d1, d2, d3, d4, d5⟩ := Ods.six hcs HO.out
    clear hcs
    go_wp2
    go_ret2
    exact ⟨rfl, b2⟩
  · rw [if_neg hy] at hr
    subst hr
    have hq : (o.own == y) = false := by simpa using hy
    clear h hf ho
    go_enter Tryz.func114, Tryz.ntmps114
    go_wp2_with fail
    refine hm.mono ?_
    rintro e w1 ⟨rfl, rfl⟩
    go_wp2_with fail
    refine Calls.mono HF.out ?_
    rintro e w2 ⟨rfl, b2⟩
    have K2 := Bk.below HH.out b2
    have c1 : w2.cell? ⟨p, 1, none⟩ = some (.slice oc B.os.length ocap) := K2.blk.cell rfl
    obtain ⟨pp, cap, hv, hcs⟩ := K2.ods
    injection hv with hv1 hv2 hv3
    clear hv2
    subst hv1 hv3
    rcases hcs with hnil | ⟨gb, off, hp, hcs⟩
    · exfalso; rw [hnil] at h4; simp at h4
    subst hp
    obtain ⟨d0, d1, d2, d3, d4, d5⟩ := Ods.six hcs HO.out
    clear hcs
    go_wp2
    go_ret2
    exact ⟨rfl, b2⟩

end Go.Proofs.YtpekfpfhonechaaGreat.Cal

namespace Go.Proofs.YtpekfpfhonechaaGreat.Cal
open Go.Shelf Go.RowKit Go.Lib Go.Sort
set_option linter.unusedSimpArgs false
set_option linter.unusedVariables false
variable {base p : Nat} {v : Value} {B : Bo}

set_option maxHeartbeats 8000000 in
set_option maxRecDepth 100000 in
theorem delete_calls (g cap i m : Nat) (l : List Od) (w : World) (hl : l.length = m + 1) (h : w.ownsRow base 51 6 (.slice (some ⟨g, 0, none⟩) (m + 1) cap) (m + 1) (odL l)) (hi : i < m + 1) (hn : m + 1 ≤ 1000000) :
    Calls Tryz.prog 132 #[.slice (some ⟨g, 0, none⟩) (m + 1) cap, .int .i64 i, .int .i64 ((i : Int) + 1)] w fun e w' => e = .returned (.slice (some ⟨g, 0, none⟩) m cap) ∧ w'.ownsRow base 51 6 (.slice (some ⟨g, 0, none⟩) m cap) (l.eraseIdx i).length (odL (l.eraseIdx i)) ∧ Off g w w' := by
  have hcap := own_cap h
  have hcm : cap ≤ 9223372036854775807 := by
    rcases h.2 with ⟨q, _⟩ | ⟨q1, q2, q3, q4, _, _, _, q5, _⟩
    · cases q
    · injection q4 with _ _ q6
      unfold maxLen at q5
      omega
  have z1 : (i : Int) ≤ (i : Int) + 1 := by omega
  have z2 : (i : Int) + 1 ≤ (m : Int) + 1 := by omega
  have z3 : (m : Int) + 1 ≤ (cap : Int) := by omega
  have z4 : (0 : Int) ≤ (i : Int) + 1 := by omega
  have z5 : ((i : Int) == (i : Int) + 1) = false := by rw [beq_eq_false_iff_ne]; omega
  have z6 : ¬ (i : Int) = (i : Int) + 1 := by omega
  have z7 : ((i : Int) + 1).toNat = i + 1 := by omega
  have z8 : (i : Int) ≤ (cap : Int) := by omega
  by_cases hce : cap = i + 1
  · obtain ⟨W, hrun, own1, of1⟩ := own_shift (w := w.drew) h hl i hi ⟨g, 0, none⟩ (cap - (i + 1)) 48 hn (by right; omega)
    rw [Nat.add_sub_cancel] at hrun own1
    obtain ⟨W2, hcl, own2, of2⟩ := own_clear own1 (by rw [List.length_append, List.length_eraseIdx_of_lt (by omega), List.length_drop]; omega) m (by omega) 0
    have hcl2 := fun c' => hcl c'
    rw [show m + 1 - m = 1 by omega] at hcl2
    have HF : Hid (W2.ownsRow base 51 6 (.slice (some ⟨g, 0, none⟩) m cap) (l.eraseIdx i).length (odL (l.eraseIdx i)) ∧ Off g w W2) := by
      refine ⟨?_, ((Off.refl g w).drew.trans of1).trans of2⟩
      have e1 : (l.eraseIdx i).length = m := by rw [List.length_eraseIdx_of_lt (by omega)]; omega
      rw [e1]
      rw [List.take_left' e1] at own2
      exact own2
    have HCE : Hid _ := hce
    have HLL : Hid _ := hl
    clear own1 own2 of1 of2 hcl h hce
    go_enter Tryz.func132, Tryz.ntmps132
    go_wp2_with fail
    refine wp_region_any (by kernel_rfl) ?_
    change wpAny _ _ _ _ _ _ _ (World.drew _)
    refine wpAny_take (i := 0) (v := (.slice (some ⟨g, 0, none⟩) (m + 1) cap)) rfl (by kernel_rfl) (by kernel_rfl) (by kernel_rfl) (fun _ _ _ h => h) (Or.inl ⟨by rfl, fun w => by go_simp⟩) ?_
    refine wpAny_take (i := 1) (v := (.int .i64 i)) rfl (by kernel_rfl) (by kernel_rfl) (by kernel_rfl) (fun _ _ _ h => h) (Or.inl ⟨by rfl, fun w => by go_simp⟩) ?_
    refine wpAny_take (i := 2) (v := (.slice (some ⟨g, 0, none⟩) i cap)) rfl (by kernel_rfl) (by kernel_rfl) (by kernel_rfl) (fun _ _ _ h => h) (Or.inl ⟨by rfl, fun w => by go_simp; first | done | (intro h; omega) | (rw [if_neg (by omega)])⟩) ?_
    refine wpAny_take (i := 3) (v := (.slice (some ⟨g, 0, none⟩) (m + 1) cap)) rfl (by kernel_rfl) (by kernel_rfl) (by kernel_rfl) (fun _ _ _ h => h) (Or.inl ⟨by rfl, fun w => by go_simp⟩) ?_
    refine wpAny_take (i := 4) (v := (.int .i64 ((i : Int) + 1))) rfl (by kernel_rfl) (by kernel_rfl) (by kernel_rfl) (fun _ _ _ h => h) (Or.inl ⟨by rfl, fun w => by go_simp⟩) ?_
    refine wpAny_take (i := 5) (v := (.slice (some ⟨g, 0, none⟩) (m + 1 - (i + 1)) (cap - (i + 1)))) rfl (by kernel_rfl) (by kernel_rfl) (by kernel_rfl) (fun _ _ _ h => h) (Or.inl ⟨by rfl, fun w => by go_simp; have hce := HCE.out; first | done | exact hce | (intro h; omega) | omega | (rw [if_neg hce])⟩) ?_
    refine wpAny_ready (rs := [6]) (by kernel_rfl) (by simp) ?_
    refine AllReady.cons rfl (fun K hK => ?_) AllReady.nil
    refine wp_append_run (.tmp 22) (.tmp 25) 48 rfl _ _ rfl rfl hrun ?_
    refine hK _ _ ?_
    clear hK
    refine wpAny_ready (rs := [7]) (by kernel_rfl) (by simp) ?_
    refine AllReady.cons rfl (fun K hK => ?_) AllReady.nil
    go_simp
    refine hK _ _ ?_
    clear hK
    refine wpAny_done (by kernel_rfl) ?_ _
    have hq1 : (m : Int) ≤ (m : Int) + 1 := by omega
    have hq2 : (m : Int) + 1 ≤ (cap : Int) := by omega
    have hq3 : ¬ cap = m := by omega
    have hq4 : ((m : Int) + 1).toNat = m + 1 := by omega
    have hq5 : m + 1 - m = 1 := by omega
    clear hrun
    go_wp2
    go_ret
    exact ⟨rfl, HF.out⟩
  · obtain ⟨W, hrun, own1, of1⟩ := own_shift (w := w.drew) h hl i hi ⟨g, (i + 1) * 6, none⟩ (cap - (i + 1)) 48 hn (by left; rfl)
    rw [Nat.add_sub_cancel] at hrun own1
    obtain ⟨W2, hcl, own2, of2⟩ := own_clear own1 (by rw [List.length_append, List.length_eraseIdx_of_lt (by omega), List.length_drop]; omega) m (by omega) 0
    have hcl2 := fun c' => hcl c'
    rw [show m + 1 - m = 1 by omega] at hcl2
    have HF : Hid (W2.ownsRow base 51 6 (.slice (some ⟨g, 0, none⟩) m cap) (l.eraseIdx i).length (odL (l.eraseIdx i)) ∧ Off g w W2) := by
      refine ⟨?_, ((Off.refl g w).drew.trans of1).trans of2⟩
      have e1 : (l.eraseIdx i).length = m := by rw [List.length_eraseIdx_of_lt (by omega)]; omega
      rw [e1]
      rw [List.take_left' e1] at own2
      exact own2
    have HCE : Hid _ := hce
    have HLL : Hid _ := hl
    clear own1 own2 of1 of2 hcl h hce
    go_enter Tryz.func132, Tryz.ntmps132
    go_wp2_with fail
    refine wp_region_any (by kernel_rfl) ?_
    change wpAny _ _ _ _ _ _ _ (World.drew _)
    refine wpAny_take (i := 0) (v := (.slice (some ⟨g, 0, none⟩) (m + 1) cap)) rfl (by kernel_rfl) (by kernel_rfl) (by kernel_rfl) (fun _ _ _ h => h) (Or.inl ⟨by rfl, fun w => by go_simp⟩) ?_
    refine wpAny_take (i := 1) (v := (.int .i64 i)) rfl (by kernel_rfl) (by kernel_rfl) (by kernel_rfl) (fun _ _ _ h => h) (Or.inl ⟨by rfl, fun w => by go_simp⟩) ?_
    refine wpAny_take (i := 2) (v := (.slice (some ⟨g, 0, none⟩) i cap)) rfl (by kernel_rfl) (by kernel_rfl) (by kernel_rfl) (fun _ _ _ h => h) (Or.inl ⟨by rfl, fun w => by go_simp; first | done | (intro h; omega) | (rw [if_neg (by omega)])⟩) ?_
    refine wpAny_take (i := 3) (v := (.slice (some ⟨g, 0, none⟩) (m + 1) cap)) rfl (by kernel_rfl) (by kernel_rfl) (by kernel_rfl) (fun _ _ _ h => h) (Or.inl ⟨by rfl, fun w => by go_simp⟩) ?_
    refine wpAny_take (i := 4) (v := (.int .i64 ((i : Int) + 1))) rfl (by kernel_rfl) (by kernel_rfl) (by kernel_rfl) (fun _ _ _ h => h) (Or.inl ⟨by rfl, fun w => by go_simp⟩) ?_
    refine wpAny_take (i := 5) (v := (.slice (some ⟨g, (i + 1) * 6, none⟩) (m + 1 - (i + 1)) (cap - (i + 1)))) rfl (by kernel_rfl) (by kernel_rfl) (by kernel_rfl) (fun _ _ _ h => h) (Or.inl ⟨by rfl, fun w => by go_simp; have hce := HCE.out; first | done | exact hce | (intro h; omega) | omega | (rw [if_neg hce])⟩) ?_
    refine wpAny_ready (rs := [6]) (by kernel_rfl) (by simp) ?_
    refine AllReady.cons rfl (fun K hK => ?_) AllReady.nil
    refine wp_append_run (.tmp 22) (.tmp 25) 48 rfl _ _ rfl rfl hrun ?_
    refine hK _ _ ?_
    clear hK
    refine wpAny_ready (rs := [7]) (by kernel_rfl) (by simp) ?_
    refine AllReady.cons rfl (fun K hK => ?_) AllReady.nil
    go_simp
    refine hK _ _ ?_
    clear hK
    refine wpAny_done (by kernel_rfl) ?_ _
    have hq1 : (m : Int) ≤ (m : Int) + 1 := by omega
    have hq2 : (m : Int) + 1 ≤ (cap : Int) := by omega
    have hq3 : ¬ cap = m := by omega
    have hq4 : ((m : Int) + 1).toNat = m + 1 := by omega
    have hq5 : m + 1 - m = 1 := by omega
    clear hrun
    go_wp2
    go_ret
    exact ⟨rfl, HF.out⟩
end Go.Proofs.YtpekfpfhonechaaGreat.Cal

namespace Go.Proofs.YtpekfpfhonechaaGreat.Cal
open Go.Shelf Go.RowKit Go.Lib Go.Sort
set_option linter.unusedSimpArgs false
set_option linter.unusedVariables false
variable {base p : Nat} {v : Value} {B : Bo}

def Bo.rem (B : Bo) (i : Nat) : Bo := ⟨B.nx, B.os.eraseIdx i⟩
theorem BInv.rem (h : BInv B) (i : Nat) : BInv (B.rem i) := by
  have hs : (B.rem i).os.Sublist B.os := List.eraseIdx_sublist ..
  refine ⟨h.nx1, h.nx2, Nat.le_trans hs.length_le h.len, fun o ho => h.may o (hs.subset ho), h.ids.sublist hs, h.pls.sublist hs, fun o ho => h.pl o (hs.subset ho)⟩

set_option maxHeartbeats 4000000 in
set_option maxRecDepth 100000 in
theorem remove_calls (i : Nat) (w : World) (h : Bk w base p v B) (hi : i < B.os.length) : Calls Tryz.prog 115 #[.pointer (some ⟨p, 0, none⟩), .int .i64 i] w fun e w' => e = .returned (.tuple #[]) ∧ ∃ v', Bst w w' base p v v' (B.rem i) := by
  have hlen := h.inv.len
  obtain ⟨m, hm⟩ : ∃ m, B.os.length = m + 1 := ⟨B.os.length - 1, by omega⟩
  have hrow := h.row
  rw [hm] at hrow
  rcases h.row.2 with ⟨_, h0⟩ | ⟨g, cap, cur, hv, hgb, hBl, hnc, hcm, hcs, ht⟩
  · exfalso; omega
  rw [hm] at hv
  subst hv
  have hgp : g ≠ p := fun e => h.ne (by rw [e]; rfl)
  have HD : Hid _ := delete_calls g cap i m B.os w hm hrow (by omega) (by omega)
  have c1 : w.cell? ⟨p, 1, none⟩ = some (.slice (some ⟨g, 0, none⟩) (m + 1) cap) := h.blk.cell rfl
  have HH : Hid _ := h
  have hie : (i : Int) < 9223372036854775807 := by omega
  have HM : Hid _ := hm
  clear h hrow hBl hcs ht hm
  go_enter Tryz.func115, Tryz.ntmps115
  go_wp2_with fail
  refine Calls.mono HD.out ?_
  rintro e w1 ⟨rfl, own1, of1⟩
  have P1 : Blk w1 p #[.int .i64 B.nx, .slice (some ⟨g, 0, none⟩) (m + 1) cap] 103 := HH.out.blk.off of1 (fun e => hgp e.symm)
  have c2 : w1.cell? ⟨p, 1, none⟩ = some (.slice (some ⟨g, 0, none⟩) (m + 1) cap) := P1.cell rfl
  have f2 : w1.frozen? ⟨p, 1, none⟩ = false := P1.frozen
  have HF : Hid (Bst w (w1.setCell ⟨p, 1, none⟩ (.slice (some ⟨g, 0, none⟩) m cap)) base p (.slice (some ⟨g, 0, none⟩) (m + 1) cap) (.slice (some ⟨g, 0, none⟩) m cap) (B.rem i)) := by
    have hl : (B.rem i).os.length = m := by
      show (B.os.eraseIdx i).length = m
      rw [List.length_eraseIdx_of_lt hi, HM.out]; rfl
    have O1 : Ofb p (.slice (some ⟨g, 0, none⟩) (m + 1) cap) w w1 := ⟨of1.os, of1.tape, of1.output, of1.size, fun k hk h1 h2 => of1.block k hk (fun e => h2 (by rw [e]; rfl))⟩
    refine ⟨⟨P1.set 1 _, ?_, HH.out.le, by simpa [Value.ownBlock] using hgp, HH.out.inv.rem i⟩, ofb_cell O1 (q := ⟨p, 1, none⟩) (Or.inl rfl) _, fun k hk => Or.inl hk⟩
    exact World.ownsRow.kept own1 (row := some p) ⟨rfl, rfl, rfl, by rw [World.size_setCell]; exact Nat.le_refl _, fun j hj hjp => Below.heap_setCell _ _ _ _ (by intro e; exact hjp (by rw [e]))⟩ (Or.inr (by simpa [Value.ownBlock] using hgp))
  clear own1 of1 P1
  go_wp2
  go_end0
  exact ⟨rfl, _, HF.out⟩

def Bo.cancel (B : Bo) (x y : Int) : Int × Bo := if fnd B.os x < 0 then (3, B) else if (gtB B.os x).1.own = y then (0, B.rem (fnd B.os x).toNat) else (80, B)
set_option maxHeartbeats 4000000 in
set_option maxRecDepth 100000 in
theorem cancel_calls (x y : Int) (w : World) (h : Bk w base p v B) (r : Int × Bo) (hr : B.cancel x y = r) : Calls Tryz.prog 87 #[.pointer (some ⟨p, 0, none⟩), .int .i64 x, .int .i64 y] w fun e w' => e = .returned (.int .i64 r.1) ∧ ∃ v', Bst w w' base p v v' r.2 := by
  unfold Bo.cancel at hr
  have HH : Hid _ := h
  rcases fnd_cases B.os x with ⟨f1, f2⟩ | ⟨i, o, f1, f2, f3, f4⟩
  · rw [if_pos (by rw [f1]; decide)] at hr
    subst hr
    have HO : Hid _ := owned_none x y w h f1
    clear h f1 f2
    go_enter Tryz.func87, Tryz.ntmps87
    go_wp2_with fail
    refine Calls.mono HO.out ?_
    rintro e w1 ⟨rfl, b1⟩
    go_wp2
    go_ret
    exact ⟨rfl, v, Bst.same HH.out b1⟩
  · rw [if_neg (by rw [f1]; omega), gtB_some f1 f2 f3, f1, Int.toNat_natCast] at hr
    by_cases hy : o.own = y
    · rw [if_pos hy] at hr
      subst hr
      have HO : Hid _ := owned_some x y w h i o f1 f2 (i, 0) (by rw [if_pos hy])
      have HR : Hid _ := fun (w1 : World) (b1 : Below w.heap.size w w1) => remove_calls i w1 (h.below b1) f4
      clear h f1 f2 f3 hy
      go_enter Tryz.func87, Tryz.ntmps87
      go_wp2_with fail
      refine Calls.mono HO.out ?_
      rintro e w1 ⟨rfl, b1⟩
      go_wp2_with fail
      refine Calls.mono (HR.out w1 b1) ?_
      rintro e w2 ⟨rfl, v2, S2⟩
      go_wp2
      go_ret
      exact ⟨rfl, v2, Bst.first b1 S2⟩
    · rw [if_neg hy] at hr
      subst hr
      have HO : Hid _ := owned_some x y w h i o f1 f2 (0, 80) (by rw [if_neg hy])
      clear h f1 f2 f3 hy
      go_enter Tryz.func87, Tryz.ntmps87
      go_wp2_with fail
      refine Calls.mono HO.out ?_
      rintro e w1 ⟨rfl, b1⟩
      go_wp2
      go_ret
      exact ⟨rfl, v, Bst.same HH.out b1⟩
end Go.Proofs.YtpekfpfhonechaaGreat.Cal
