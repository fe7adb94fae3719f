/- The library's Insert and Delete of one text, over a row of one's own. -/
import Derived.Test.YtpcafjbebhcilaaGreatTm39
import Derived.Test.YtpcafjbebhcilaaGreatRows
import Derived.Shelf.RegionOpenPlain
import Derived.WalkKit
import Derived.Lib.Walk
import Derived.Lib.SliceRun
import Derived.Laws.Externs
import Derived.Lib.Hide
import Derived.Handy
import Derived.Deep.AppendLies
namespace Go.Proofs.YtpcafjbebhcilaaGreat
open Go.Shelf Go.RowKit Go.Lib
set_option linter.unusedSimpArgs false
set_option linter.unusedVariables false

theorem infoT : (Tryz.prog.info? 9).map (fun i => (i.zero, i.size, i.bytes)) = some (some (.string ⟨#[]⟩), 1, 16) := by kernel_rfl
theorem zeroT_one : ∀ u ∈ (Builtin.zeroCells (.string ⟨#[]⟩ : Value).cells 1).toList, u.oneCell' = true := by
  intro u hu
  simp [Builtin.zeroCells, Value.cells] at hu
  subst hu; rfl

theorem mixedT : Tryz.prog.follows Departure.mixedOrders = true := by kernel_rfl
set_option maxHeartbeats 4000000 in
set_option maxRecDepth 100000 in
theorem insT_calls (base n i vb : Nat) (v : Value) (xs : List Value) (cs : Array Value) (tv : TypeId) (w : World) (h : w.ownsRow base 9 1 v n xs) (hX : Blk w vb cs tv) (hcs : cs.size = 1) (hi : i ≤ n) (hn : n ≤ 100000) (hb : base ≤ w.heap.size) (h1x : ∀ u ∈ cs.toList, u.oneCell' = true) (h1 : ∀ u ∈ xs, u.oneCell' = true) (hvb : v.ownBlock ≠ some vb) :
    Calls Tryz.prog 47 #[v, .int .i64 i, .slice (some ⟨vb, 0, none⟩) 1 1] w fun e w' => ∃ g' cap', e = .returned (.slice (some ⟨g', 0, none⟩) (n + 1) cap') ∧ w'.ownsRow base 9 1 (.slice (some ⟨g', 0, none⟩) (n + 1) cap') (n + 1) (xs.take (i * 1) ++ cs.toList ++ xs.drop (i * 1)) ∧ w.grownBy w' v.ownBlock ∧ (v.ownBlock = some g' ∨ g' = w.heap.size) := by
  have mixed := mixedT
  obtain ⟨i0, hi0, hz0, hzs, hzb⟩ := info_parts infoT
  have hvs : ∀ j u, cs.toList[j]? = some u → w.cell? ⟨vb, j, none⟩ = some u := fun j u hj => hX.cell (by rwa [Array.getElem?_toList] at hj)
  have hxl : cs.toList.length = 1 := by rw [Array.length_toList]; exact hcs
  have hvw := hX.lt
  have hml : n + 1 ≤ maxLen := by unfold maxLen; omega
  rcases Nat.lt_or_ge i n with hlt | hge
  · obtain ⟨g, cap, rfl, hnc, hcm⟩ : ∃ g cap, v = .slice (some ⟨g, 0, none⟩) n cap ∧ n ≤ cap ∧ cap ≤ 9223372036854775807 := by
      rcases h.2 with ⟨_, q⟩ | ⟨g, cap, cur, q, _, _, q2, q3, _⟩
      · omega
      · exact ⟨g, cap, q, q2, by unfold maxLen at q3; omega⟩
    have hvg : vb ≠ g := fun q => hvb (by rw [q]; rfl)
    have hz2 : ¬ ((i : Int) = (n : Int)) := by omega
    have hz2' : ((i : Int) == (n : Int)) = false := by rw [beq_eq_false_iff_ne]; omega
    have hin : (i : Int) ≤ (n : Int) := by omega
    have hcapi : ¬ (cap = i) := by omega
    have hsz : (Tryz.prog.info? 9).map (·.size) = some 1 := by rw [hi0]; simp [hzs]
    have hw0 : IntKind.i64.wrap ((n : Int) + 1) = (n : Int) + 1 := by rw [IntKind.wrap_i64]; omega
    have hw1 : IntKind.i64.wrap ((i : Int) + 1) = (i : Int) + 1 := by rw [IntKind.wrap_i64]; omega
    have ht1 : ((i : Int) + 1).toNat = i + 1 := by omega
    have ht2 : ((n : Int) + 1).toNat = n + 1 := by omega
    rcases Nat.lt_or_ge cap (n + 1) with hr | hr
    · obtain ⟨G, W1, W2, W3, hG1, hG2, r1, r2, r3, own3, b3⟩ := own_insB (P := Tryz.prog) (sT := 62) (x := cs.toList) h 3 Tryz.underlying3 i0 (.string ⟨#[]⟩) 16 Tryz.underlying62 hi0 hz0 hzs rfl (by decide) hzb hb i hlt hr (by omega) hml hxl h1x h1 vb hvw hvs
      have HF : Hid (W3.ownsRow base 9 1 (.slice (some ⟨w.heap.size, 0, none⟩) (n + 1) G) (n + 1) (xs.take (i * 1) ++ cs.toList ++ xs.drop (i * 1)) ∧ w.grownBy W3 (some g)) :=
        ⟨own3, b3.os, b3.tape, b3.output, b3.size, fun k hk _ => b3.block k hk⟩
      have hG3 : G ≤ 9223372036854775807 := by unfold maxLen at hG2; omega
      have hz3 : (cap : Int) < (n : Int) + 1 := by omega
      have hGi : ¬ (G = i) := by omega
      have hGi1 : ¬ (G = i + 1) := by omega
      have hw3 : IntKind.i64.wrap ((n : Int) + 1 - (i : Int)) = (n : Int) + 1 - (i : Int) := by rw [IntKind.wrap_i64]; omega
      have hq1 : (i : Int) ≤ (n : Int) + 1 := by omega
      have hq2 : (0 : Int) ≤ (i : Int) + 1 := by omega
      have hq3 : (i : Int) + 1 ≤ (n : Int) + 1 := by omega
      have hq4 : (i : Int) ≤ (cap : Int) := by omega
      have hq5 : (n : Int) ≤ (cap : Int) := by omega
      have hq6 : (n : Int) + 1 ≤ (G : Int) := by omega
      have HX : Hid _ := hX
      have HH : Hid _ := h
      clear h hX own3 b3 hvs hb hvw hz0 hzs hzb
      go_enter Tryz.func47, Tryz.ntmps47
      go_wp2_with (at_builtin; refine Lib.wpList_append_run _ rfl _ _ _ _ rfl _ _ rfl rfl _ _ (r1 _ _ (by omega)) ?_)
      go_wp2_with (at_builtin; refine wpList_copy_runT _ rfl _ _ _ _ rfl _ _ rfl rfl (r2 _ _ _ _ _ (by omega) (by omega)) ?_)
      go_region_law_o (refine step_copy_runT rfl _ _ _ _ rfl _ _ (by simp [Act.eval, Act.put]) (by simp [Act.eval, Act.put]) (r3 _ _ _ _ _ _ _ (by omega) (by omega) (by omega) (by omega)) ?_)
      go_wp2
      go_ret
      exact ⟨_, _, rfl, HF.out.1, HF.out.2, Or.inr rfl⟩
    · have hov : ∀ lb cb, (callFunc 74 #[.slice (some ⟨vb, 0, none⟩) 1 1, .slice (some ⟨g, i + 1, none⟩) lb cb]).run Tryz.prog w = .ok (.value (.bool false)) w := fun lb cb => by
        rcases h.2 with ⟨q1, _⟩ | ⟨g', cap', cur, q1, _, hB, _, _, hcs', _⟩
        · cases q1
        injection q1 with q1 q2 q3
        injection q1 with q1
        injection q1 with q1
        subst q1 q3
        rw [run_callFunc_extern Tryz.func74 (by kernel_rfl) (by kernel_rfl) (by kernel_rfl) (e := Extern.SlicesOverlaps.overlaps #[62, 62] #[4]) (by kernel_rfl),
          Lib.run_overlaps_apart w 62 4 9 Tryz.underlying62 1 (fun w => by kernel_rfl) ⟨vb, 0, none⟩ ⟨g, i + 1, none⟩ 1 1 lb cb hvg tv 9 cs.size cur.size (by unfold World.shape?; rw [show w.heap[vb]? = some (.cells cs tv) from hX]) (by unfold World.shape?; rw [show w.heap[g]? = some (.cells cur 9 (0, 0)) from hB]) (by rw [hcs']; omega) hX.frozen hX.frozen]
        rfl
      obtain ⟨W1, W2, r1, r2, own3, b3⟩ := own_insC (P := Tryz.prog) (w := w.drew) (sT := 62) (x := cs.toList) h Tryz.underlying62 hsz i hlt hr hxl h1x h1 vb hvg hvs
      have HF : Hid (W2.ownsRow base 9 1 (.slice (some ⟨g, 0, none⟩) (n + 1) cap) (n + 1) (xs.take (i * 1) ++ cs.toList ++ xs.drop (i * 1)) ∧ w.grownBy W2 (some g)) :=
        ⟨own3, b3.os, b3.tape, b3.output, b3.size, fun k hk hne => b3.block k hk (fun q => hne (by rw [q]))⟩
      have hz3 : ¬ (cap : Int) < (n : Int) + 1 := by omega
      have hz3' : (n : Int) + 1 ≤ (cap : Int) := by omega
      have hGi1 : ¬ (cap = i + 1) := by omega
      have hq1 : (i : Int) ≤ (n : Int) + 1 := by omega
      have hq2 : (0 : Int) ≤ (i : Int) + 1 := by omega
      have hq3 : (i : Int) + 1 ≤ (n : Int) + 1 := by omega
      have hq0 : (0 : Int) ≤ (n : Int) + 1 := by omega
      have HX : Hid _ := hX
      have HH : Hid _ := h
      clear h hX own3 b3 hvs hb hvw hz0 hzs hzb
      go_enter Tryz.func47, Tryz.ntmps47
      go_wp2_with (simp only [hov])
      go_region_law_o (refine step_copy_runT rfl _ _ _ _ rfl _ _ (by simp [Act.eval, Act.put]) (by simp [Act.eval, Act.put]) (r1 _ _ _ _ _ _ _ (by omega) (by omega) (by omega) (by omega)) ?_)
      go_wp2_with (at_builtin; refine wpList_copy_runT _ rfl _ _ _ _ rfl _ _ rfl rfl (r2 _ _ _ _ _ (by omega) (by omega)) ?_)
      go_ret
      exact ⟨_, _, rfl, HF.out.1, HF.out.2, Or.inl rfl⟩
  · have hin : i = n := by omega
    subst hin
    rw [List.take_of_length_le (by rw [h.1]; exact Nat.le_refl _), List.drop_of_length_le (by rw [h.1]; exact Nat.le_refl _), List.append_nil]
    obtain ⟨a, cap, rfl, ha, hcm, hnil⟩ : ∃ a cap, v = .slice a i cap ∧ i ≤ cap ∧ cap ≤ 9223372036854775807 ∧ (a = none → i = 0) := by
      rcases h.2 with ⟨q, q2⟩ | ⟨g, cap, cur, q, _, _, q2, q3, _⟩
      · exact ⟨none, 0, by rw [q, q2], by omega, by omega, fun _ => q2⟩
      · exact ⟨_, cap, q, q2, by unfold maxLen at q3; omega, fun q => by cases q⟩
    have HX : Hid _ := hX
    have HH : Hid _ := h
    have hc1 : ∀ j u, cs.toList[j]? = some u → w.cell? ((⟨vb, 0, none⟩ : Addr).add j) = some u := fun j u hj => by rw [Addr.add_lit, Nat.zero_add]; exact hvs j u hj
    have HV : Hid _ := hc1
    have H1 : Hid _ := h1x
    have hc4 : (i + 1) * 16 ≤ 140737488355328 := by omega
    have H4 : Hid _ := hc4
    have H5 : Hid _ := hb
    have H3 : Hid _ := hml
    have HN : Hid _ := hnil
    rcases Nat.lt_or_ge i cap with hc | hc
    · have hc' : ¬ cap = i := by omega
      cases a with
      | none =>
        exfalso
        rcases h.2 with ⟨q, q2⟩ | ⟨g, cap, cur, q, _⟩
        · injection q with _ _ q; omega
        · cases q
      | some ad =>
        obtain ⟨g, o, sp⟩ := ad
        clear h hX hvs hc1 h1x hc4 hb hml
        go_enter Tryz.func47, Tryz.ntmps47
        go_wp2_with (at_builtin; refine wpList_append_lies _ rfl _ _ 62 rfl base 9 i0 (.string ⟨#[]⟩) 1 16 Tryz.underlying62 hi0 hz0 hzs hzb rfl (by decide) _ _ _ rfl HH.out ⟨vb, 0, none⟩ 1 1 cs.toList rfl (by rw [hxl]) HV.out H1.out (by decide) H3.out H4.out H5.out w.heap.size rfl ?_)
        intro g2 cap2 w' own' gr' lie' _
        go_wp2
        go_ret
        exact ⟨_, _, rfl, own', gr', lie'⟩
    · have hc' : cap = i := by omega
      clear h hX hvs hc1 h1x hc4 hb hml
      cases a with
      | none =>
        have h0 := HN.out rfl
        subst h0
        subst hc'
        go_enter Tryz.func47, Tryz.ntmps47
        go_wp2_with (at_builtin; refine wpList_append_lies _ rfl _ _ 62 rfl base 9 i0 (.string ⟨#[]⟩) 1 16 Tryz.underlying62 hi0 hz0 hzs hzb rfl (by decide) _ _ _ rfl HH.out ⟨vb, 0, none⟩ 1 1 cs.toList rfl (by rw [hxl]) HV.out H1.out (by decide) H3.out H4.out H5.out w.heap.size rfl ?_)
        intro g2 cap2 w' own' gr' lie' _
        go_wp2
        go_ret
        exact ⟨_, _, rfl, own', gr', lie'⟩
      | some ad =>
        obtain ⟨g, o, sp⟩ := ad
        go_enter Tryz.func47, Tryz.ntmps47
        go_wp2_with (at_builtin; refine wpList_append_lies _ rfl _ _ 62 rfl base 9 i0 (.string ⟨#[]⟩) 1 16 Tryz.underlying62 hi0 hz0 hzs hzb rfl (by decide) _ _ _ rfl HH.out ⟨vb, 0, none⟩ 1 1 cs.toList rfl (by rw [hxl]) HV.out H1.out (by decide) H3.out H4.out H5.out w.heap.size rfl ?_)
        intro g2 cap2 w' own' gr' lie' _
        go_wp2
        go_ret
        exact ⟨_, _, rfl, own', gr', lie'⟩

set_option maxHeartbeats 8000000 in
set_option maxRecDepth 100000 in
theorem delT_calls (base g cap i m : Nat) (xs : List Value) (w : World) (h : w.ownsRow base 9 1 (.slice (some ⟨g, 0, none⟩) (m + 1) cap) (m + 1) xs) (hi : i < m + 1) (hn : m + 1 ≤ 1000000) (h1 : ∀ u ∈ xs, u.oneCell' = true) :
    Calls Tryz.prog 49 #[.slice (some ⟨g, 0, none⟩) (m + 1) cap, .int .i64 i, .int .i64 ((i : Int) + 1)] w fun e w' => e = .returned (.slice (some ⟨g, 0, none⟩) m cap) ∧ w'.ownsRow base 9 1 (.slice (some ⟨g, 0, none⟩) m cap) m (xs.take (i * 1) ++ xs.drop (i * 1 + 1)) ∧ Off g w w' := by
  obtain ⟨i0, hi0, hz0, hzs, hzb⟩ := info_parts infoT
  have hcap : m + 1 ≤ cap ∧ cap ≤ 9223372036854775807 := by
    rcases h.2 with ⟨q, _⟩ | ⟨q1, q2, q3, q4, _, _, q6, q5, _⟩
    · cases q
    · injection q4 with _ _ q7
      unfold maxLen at q5
      omega
  obtain ⟨hcn, hcm⟩ := hcap
  obtain ⟨W1, W2, r1, r2, own2, of2⟩ := own_del (P := Tryz.prog) (w := w.drew) (sT := 62) h i0 (.string ⟨#[]⟩) Tryz.underlying62 hi0 hzs rfl (fun w => by kernel_rfl) zeroT_one h1 i hi
  have z1 : (i : Int) ≤ (i : Int) + 1 := by omega
  have z2 : (i : Int) + 1 ≤ (m : Int) + 1 := by omega
  have z3 : (m : Int) + 1 ≤ (cap : Int) := by omega
  have z4 : (0 : Int) ≤ (i : Int) + 1 := by omega
  have z5 : ((i : Int) == (i : Int) + 1) = false := by rw [beq_eq_false_iff_ne]; omega
  have z6 : ¬ (i : Int) = (i : Int) + 1 := by omega
  have z7 : ((i : Int) + 1).toNat = i + 1 := by omega
  have z8 : (i : Int) ≤ (cap : Int) := by omega
  have HF : Hid (W2.ownsRow base 9 1 (.slice (some ⟨g, 0, none⟩) m cap) m (xs.take (i * 1) ++ xs.drop (i * 1 + 1)) ∧ Off g w W2) := ⟨own2, of2.os, of2.tape, of2.output, of2.size, of2.block⟩
  by_cases hce : cap = i + 1
  · have HCE : Hid _ := hce
    clear own2 of2 h hce
    go_enter Tryz.func49, Tryz.ntmps49
    go_wp2_with fail
    refine wp_region_any (by kernel_rfl) ?_
    change wpAny _ _ _ _ _ _ _ (World.drew _)
    refine wpAny_take (i := 0) (v := (.slice (some ⟨g, 0, none⟩) (m + 1) cap)) rfl (by kernel_rfl) (by kernel_rfl) (by kernel_rfl) (fun _ _ _ h => h) (Or.inl ⟨by rfl, fun w => by go_simp⟩) ?_
    refine wpAny_take (i := 1) (v := (.int .i64 i)) rfl (by kernel_rfl) (by kernel_rfl) (by kernel_rfl) (fun _ _ _ h => h) (Or.inl ⟨by rfl, fun w => by go_simp⟩) ?_
    refine wpAny_take (i := 2) (v := (.slice (some ⟨g, 0, none⟩) i cap)) rfl (by kernel_rfl) (by kernel_rfl) (by kernel_rfl) (fun _ _ _ h => h) (Or.inl ⟨by rfl, fun w => by go_simp; first | done | (intro h; omega) | (rw [if_neg (by omega)])⟩) ?_
    refine wpAny_take (i := 3) (v := (.slice (some ⟨g, 0, none⟩) (m + 1) cap)) rfl (by kernel_rfl) (by kernel_rfl) (by kernel_rfl) (fun _ _ _ h => h) (Or.inl ⟨by rfl, fun w => by go_simp⟩) ?_
    refine wpAny_take (i := 4) (v := (.int .i64 ((i : Int) + 1))) rfl (by kernel_rfl) (by kernel_rfl) (by kernel_rfl) (fun _ _ _ h => h) (Or.inl ⟨by rfl, fun w => by go_simp⟩) ?_
    refine wpAny_take (i := 5) (v := (.slice (some ⟨g, 0, none⟩) (m + 1 - (i + 1)) (cap - (i + 1)))) rfl (by kernel_rfl) (by kernel_rfl) (by kernel_rfl) (fun _ _ _ h => h) (Or.inl ⟨by rfl, fun w => by go_simp; have hce := HCE.out; first | done | exact hce | (intro h; omega) | omega | (rw [if_neg hce])⟩) ?_
    refine wpAny_ready (rs := [6]) (by kernel_rfl) (by simp) ?_
    refine AllReady.cons rfl (fun K hK => ?_) AllReady.nil
    refine wp_append_runT (.tmp 22) (.tmp 25) 62 rfl _ _ rfl rfl (r1 _ ⟨g, 0, none⟩ _ _ (by omega) (by have hce := HCE.out; right; omega)) ?_
    refine hK _ _ ?_
    clear hK
    refine wpAny_ready (rs := [7]) (by kernel_rfl) (by simp) ?_
    refine AllReady.cons rfl (fun K hK => ?_) AllReady.nil
    go_simp
    refine hK _ _ ?_
    clear hK
    refine wpAny_done (by kernel_rfl) ?_ _
    have hq1 : (m : Int) ≤ (m : Int) + 1 := by omega
    have hq2 : (m : Int) + 1 ≤ (cap : Int) := by omega
    have hq3 : ¬ cap = m := by omega
    have hq4 : ((m : Int) + 1).toNat = m + 1 := by omega
    have hq5 : m + 1 - m = 1 := by omega
    have hcl := fun c => r2 0 _ c rfl
    rw [Nat.mul_one] at hcl
    clear r1 r2
    go_wp2
    go_ret
    exact ⟨rfl, HF.out⟩
  · have HCE : Hid _ := hce
    clear own2 of2 h hce
    go_enter Tryz.func49, Tryz.ntmps49
    go_wp2_with fail
    refine wp_region_any (by kernel_rfl) ?_
    change wpAny _ _ _ _ _ _ _ (World.drew _)
    refine wpAny_take (i := 0) (v := (.slice (some ⟨g, 0, none⟩) (m + 1) cap)) rfl (by kernel_rfl) (by kernel_rfl) (by kernel_rfl) (fun _ _ _ h => h) (Or.inl ⟨by rfl, fun w => by go_simp⟩) ?_
    refine wpAny_take (i := 1) (v := (.int .i64 i)) rfl (by kernel_rfl) (by kernel_rfl) (by kernel_rfl) (fun _ _ _ h => h) (Or.inl ⟨by rfl, fun w => by go_simp⟩) ?_
    refine wpAny_take (i := 2) (v := (.slice (some ⟨g, 0, none⟩) i cap)) rfl (by kernel_rfl) (by kernel_rfl) (by kernel_rfl) (fun _ _ _ h => h) (Or.inl ⟨by rfl, fun w => by go_simp; first | done | (intro h; omega) | (rw [if_neg (by omega)])⟩) ?_
    refine wpAny_take (i := 3) (v := (.slice (some ⟨g, 0, none⟩) (m + 1) cap)) rfl (by kernel_rfl) (by kernel_rfl) (by kernel_rfl) (fun _ _ _ h => h) (Or.inl ⟨by rfl, fun w => by go_simp⟩) ?_
    refine wpAny_take (i := 4) (v := (.int .i64 ((i : Int) + 1))) rfl (by kernel_rfl) (by kernel_rfl) (by kernel_rfl) (fun _ _ _ h => h) (Or.inl ⟨by rfl, fun w => by go_simp⟩) ?_
    refine wpAny_take (i := 5) (v := (.slice (some ⟨g, i + 1, none⟩) (m + 1 - (i + 1)) (cap - (i + 1)))) rfl (by kernel_rfl) (by kernel_rfl) (by kernel_rfl) (fun _ _ _ h => h) (Or.inl ⟨by rfl, fun w => by go_simp; have hce := HCE.out; first | done | exact hce | (intro h; omega) | omega | (rw [if_neg hce])⟩) ?_
    refine wpAny_ready (rs := [6]) (by kernel_rfl) (by simp) ?_
    refine AllReady.cons rfl (fun K hK => ?_) AllReady.nil
    refine wp_append_runT (.tmp 22) (.tmp 25) 62 rfl _ _ rfl rfl (r1 _ ⟨g, i + 1, none⟩ _ _ (by omega) (by left; rw [Nat.mul_one])) ?_
    refine hK _ _ ?_
    clear hK
    refine wpAny_ready (rs := [7]) (by kernel_rfl) (by simp) ?_
    refine AllReady.cons rfl (fun K hK => ?_) AllReady.nil
    go_simp
    refine hK _ _ ?_
    clear hK
    refine wpAny_done (by kernel_rfl) ?_ _
    have hq1 : (m : Int) ≤ (m : Int) + 1 := by omega
    have hq2 : (m : Int) + 1 ≤ (cap : Int) := by omega
    have hq3 : ¬ cap = m := by omega
    have hq4 : ((m : Int) + 1).toNat = m + 1 := by omega
    have hq5 : m + 1 - m = 1 := by omega
    have hcl := fun c => r2 0 _ c rfl
    rw [Nat.mul_one] at hcl
    clear r1 r2
    go_wp2
    go_ret
    exact ⟨rfl, HF.out⟩
end Go.Proofs.YtpcafjbebhcilaaGreat
