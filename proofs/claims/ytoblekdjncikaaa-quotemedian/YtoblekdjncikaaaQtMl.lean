/- QuoteMedian for every floats: what it answers. -/
import Derived.Test.YtoblekdjncikaaaQtMo
namespace Go.Proofs.Ytoblekdjncikaaa
open Go.RowKit
set_option linter.unusedSimpArgs false
set_option linter.unusedVariables false

/-- The last k, backwards. -/
def revK (l : List Nat) (k : Nat) : List Nat := l.reverse.take k
theorem revK_succ (l : List Nat) (k q : Nat) (h : l.length = k + q + 1) : revK l (k + 1) = revK l k ++ [l[q]] := by
  unfold revK
  have hk : k < l.reverse.length := by rw [List.length_reverse]; omega
  rw [List.take_succ_eq_append_getElem hk, List.getElem_reverse]
  congr 3
  omega
theorem revK_full (l : List Nat) {n : Nat} (h : l.length = n) : revK l n = l.reverse := by
  unfold revK; rw [← h, ← List.length_reverse, List.take_length]

set_option maxHeartbeats 2000000 in
set_option maxRecDepth 100000 in
theorem quoteMedian_long (lv : Value) (l : List Nat) (w : World) (hl : Fls w lv l) (hz : l.length * 8 ≤ 140737488351232) (h3 : 200 < l.length) :
    Calls Try.prog 6 #[lv] w fun e w' => e = .returned (.bool true) ∧ Below w.heap.size w w' := by
  obtain ⟨i0, hi, hz0, hz1, hz3⟩ := info_parts infoFl
  have HAl : Hid _ := alike_true
  have hl3 : (l.take 200).length = 200 := by rw [List.length_take]; omega
  obtain ⟨p, c, rfl, hcap⟩ := fls_cap hl
  have hd0 : decide (200 < (l.length : Int)) = true := by simp only [decide_eq_true_eq]; omega
  have hlc : l.length ≤ c := by
    rcases hcap with rfl | h
    · simp at h3
    · exact h
  have hF := fls_take hl 200 (by omega)
  clear hl hcap
  have HF : Hid _ := hF
  have HA : Hid _ := hF.any
  have HB : Hid _ := fls_bound hF
  have HMe : Hid _ := fun v l wx h hz => median_calls v l wx h hz
  have HMr : Hid _ := fun wx h => refMedian_calls (.slice p 200 c) (l.take 200) wx h (by omega)
  generalize hl' : l.take 200 = l' at *
  clear hl'
  have hw0 : IntKind.i64.wrap ((200 : Int) - 1) = (200 : Int) - 1 := by rw [IntKind.wrap_i64]; omega
  go_enter Try.func6, Try.ntmps6
  go_wp2_with fail
  go_loopw [3, 4] (fun o i wr => ∃ k : Nat, k ≤ 200 ∧ i = .int .i64 ((200 : Int) - 1 - k) ∧ wr.ownsRow w.heap.size 24 1 o k (flC (revK l' k)) ∧ Below w.heap.size w wr) (fun _ i _ => (intOf i + 1).toNat)
  case atStart => exact ⟨0, Nat.zero_le _, by simp, World.ownsRow_nil _ _ _ _, Below.refl _ _⟩
  case round =>
    obtain ⟨k, hk, rfl, hO, hb⟩ := hrel
    have hzb := hb.size
    by_cases hlt : k < 200
    · obtain ⟨q, hq⟩ : ∃ q : Nat, 200 = k + q + 1 := ⟨200 - 1 - k, by omega⟩
      have eq1 : (200 : Int) - 1 - (k : Int) = (q : Int) := by omega
      have hd : decide (0 ≤ (q : Int)) = true := by simp only [decide_eq_true_eq]; omega
      have hi1 : IntKind.i64.wrap ((q : Int) - 1) = (q : Int) - 1 := by rw [IntKind.wrap_i64]; omega
      have hql : q < l'.length := by omega
      have HK : Hid _ := revK_succ l' k q (by omega)
      obtain ⟨a', c', hv', hcc⟩ := HA.out
      simp only [Value.slice.injEq] at hv'
      obtain ⟨rfl, -, rfl⟩ := hv'
      obtain ⟨g, o, hp, hlc2, hg, hc1, hbx⟩ := hcc q hql
      subst hp
      have c1 : wr.cell? ⟨g, o + q, none⟩ = some (.float .f64 l'[q]) := (hb.cell (p := ⟨g, o + q, none⟩) hg).trans (by simpa using hc1 0 _ rfl)
      generalize l'[q] = y at *
      have HO : Hid _ := hO
      rw [eq1]
      have t2 : (q : Int) < (200 : Int) := by omega
      have t3 : q < 200 := by omega
      have HQ : Hid _ := hq
      have HE : Hid _ := eq1
      clear hO hcc hc1 hq eq1
      go_wp2_with (at_builtin; refine wpList_append_own _ rfl (.tmp 18) (.tmp 23) 22 rfl w.heap.size 24 i0 (.float .f64 0) 1 8 Try.underlying22 hi hz0 hz1 hz3 rfl (by decide) _ _ _ rfl (World.ownsRow.alloc HO.out _) ⟨wr.heap.size, 0, none⟩ 1 1 [.float .f64 y] rfl rfl ?c1 ?c2 ?c3 ?c4 ?c5 ?_)
      case c1 => exact cell_one_new _ _ _
      case c2 => intro u hu; simp at hu; subst hu; rfl
      case c3 => unfold maxLen; omega
      case c4 => omega
      case c5 => simp; omega
      intro v' w4 ho' hg' _
      go_wp2_with fail
      have hqq := HQ.out
      refine ⟨⟨k + 1, by omega, ?_, ?_, below_grownF (hb.alloc (by omega) _) hg' (fun z hz => (World.ownsRow.lt HO.out z hz).1) (by simp; omega)⟩, ?_⟩
      · congr 1; omega
      · rw [HK.out, flC_snoc]; exact ho'
      · simp [intOf]
    · have hkn : k = 200 := by omega
      subst hkn
      have e1 : (200 : Int) - 1 - ((200 : Nat) : Int) = -1 := by omega
      rw [e1]
      clear e1
      rw [revK_full l' hl3] at hO
      have hO' : wr.ownsRow w.heap.size 24 1 u3 l'.reverse.length (flC l'.reverse) := by rw [List.length_reverse]; rw [hl3]; exact hO
      have HBk : Hid _ := fls_of_own hO' (fun x hx => HB.out x (List.mem_reverse.1 hx))
      obtain ⟨p3, c3, rfl⟩ := own_lenF hO
      have HR : Hid _ := med_reverse HB.out
      clear hO hO'
      go_wp2_with fail
      refine (HMe.out _ _ _ (Elems.below HF.out hb) (by omega)).mono ?_
      rintro e w1 ⟨rfl, b1⟩
      have hb1 := hb.trans (b1.mono hb.size)
      go_wp2_with fail
      refine (HMr.out _ (Elems.below HF.out hb1)).mono ?_
      rintro e w2 ⟨rfl, b2⟩
      have hb2 := hb1.trans (b2.mono hb1.size)
      have b12 := b1.trans (b2.mono b1.size)
      go_wp2_with fail
      refine (HAl.out _ _).mono ?_
      rintro e w3 ⟨rfl, rfl⟩
      go_wp2_with fail
      refine (HMe.out _ _ _ (Elems.below HBk.out b12) (by rw [List.length_reverse]; omega)).mono ?_
      rintro e w4 ⟨rfl, b4⟩
      have hb4 := hb2.trans (b4.mono hb2.size)
      rw [HR.out]
      go_wp2_with fail
      refine (HAl.out _ _).mono ?_
      rintro e w5 ⟨rfl, rfl⟩
      go_wp2_with fail
      refine (awake_calls _).mono ?_
      rintro e w6 ⟨rfl, rfl⟩
      go_wp2
      go_ret
      exact ⟨rfl, hb4⟩
set_option maxHeartbeats 2000000 in
set_option maxRecDepth 100000 in
theorem quoteMedian_short (lv : Value) (l : List Nat) (w : World) (hl : Fls w lv l) (hz : l.length * 8 ≤ 140737488351232) (h3 : ¬ 200 < l.length) :
    Calls Try.prog 6 #[lv] w fun e w' => e = .returned (.bool true) ∧ Below w.heap.size w w' := by
  obtain ⟨i0, hi, hz0, hz1, hz3⟩ := info_parts infoFl
  have HAl : Hid _ := alike_true
  obtain ⟨p, c, rfl, hcap⟩ := fls_cap hl
  have hd0 : decide (200 < (l.length : Int)) = false := by simp only [decide_eq_false_iff_not]; omega
  have HF : Hid _ := hl
  have HA : Hid _ := hl.any
  have HB : Hid _ := fls_bound hl
  have HMe : Hid _ := fun v l wx h hz => median_calls v l wx h hz
  have HMr : Hid _ := fun wx h => refMedian_calls (.slice p l.length c) l wx h (by omega)
  clear hl hcap
  have hw0 : IntKind.i64.wrap ((l.length : Int) - 1) = (l.length : Int) - 1 := by rw [IntKind.wrap_i64]; omega
  go_enter Try.func6, Try.ntmps6
  go_wp2_with fail
  go_loopw [3, 4] (fun o i wr => ∃ k : Nat, k ≤ l.length ∧ i = .int .i64 ((l.length : Int) - 1 - k) ∧ wr.ownsRow w.heap.size 24 1 o k (flC (revK l k)) ∧ Below w.heap.size w wr) (fun _ i _ => (intOf i + 1).toNat)
  case atStart => exact ⟨0, Nat.zero_le _, by simp, World.ownsRow_nil _ _ _ _, Below.refl _ _⟩
  case round =>
    obtain ⟨k, hk, rfl, hO, hb⟩ := hrel
    have hzb := hb.size
    by_cases hlt : k < l.length
    · obtain ⟨q, hq⟩ : ∃ q : Nat, l.length = k + q + 1 := ⟨l.length - 1 - k, by omega⟩
      have eq1 : (l.length : Int) - 1 - (k : Int) = (q : Int) := by omega
      have hd : decide (0 ≤ (q : Int)) = true := by simp only [decide_eq_true_eq]; omega
      have hi1 : IntKind.i64.wrap ((q : Int) - 1) = (q : Int) - 1 := by rw [IntKind.wrap_i64]; omega
      have hql : q < l.length := by omega
      have HK : Hid _ := revK_succ l k q (by omega)
      obtain ⟨a', c', hv', hcc⟩ := HA.out
      simp only [Value.slice.injEq] at hv'
      obtain ⟨rfl, -, rfl⟩ := hv'
      obtain ⟨g, o, hp, hlc2, hg, hc1, hbx⟩ := hcc q hql
      subst hp
      have c1 : wr.cell? ⟨g, o + q, none⟩ = some (.float .f64 l[q]) := (hb.cell (p := ⟨g, o + q, none⟩) hg).trans (by simpa using hc1 0 _ rfl)
      generalize l[q] = y at *
      have HO : Hid _ := hO
      rw [eq1]
      have t2 : (q : Int) < (l.length : Int) := by omega
      have t3 : q < l.length := by omega
      have HQ : Hid _ := hq
      have HE : Hid _ := eq1
      clear hO hcc hc1 hq eq1
      go_wp2_with (at_builtin; refine wpList_append_own _ rfl (.tmp 18) (.tmp 23) 22 rfl w.heap.size 24 i0 (.float .f64 0) 1 8 Try.underlying22 hi hz0 hz1 hz3 rfl (by decide) _ _ _ rfl (World.ownsRow.alloc HO.out _) ⟨wr.heap.size, 0, none⟩ 1 1 [.float .f64 y] rfl rfl ?c1 ?c2 ?c3 ?c4 ?c5 ?_)
      case c1 => exact cell_one_new _ _ _
      case c2 => intro u hu; simp at hu; subst hu; rfl
      case c3 => unfold maxLen; omega
      case c4 => omega
      case c5 => simp; omega
      intro v' w4 ho' hg' _
      go_wp2_with fail
      have hqq := HQ.out
      refine ⟨⟨k + 1, by omega, ?_, ?_, below_grownF (hb.alloc (by omega) _) hg' (fun z hz => (World.ownsRow.lt HO.out z hz).1) (by simp; omega)⟩, ?_⟩
      · congr 1; omega
      · rw [HK.out, flC_snoc]; exact ho'
      · simp [intOf]
    · have hkn : k = l.length := by omega
      subst hkn
      have hd : decide (0 ≤ (l.length : Int) - 1 - (l.length : Int)) = false := by simp only [decide_eq_false_iff_not]; omega
      have e1 : (l.length : Int) - 1 - (l.length : Int) = -1 := by omega
      rw [e1]
      clear hd e1
      rw [revK_full l rfl] at hO
      have hO' : wr.ownsRow w.heap.size 24 1 u3 l.reverse.length (flC l.reverse) := by rw [List.length_reverse]; exact hO
      have HBk : Hid _ := fls_of_own hO' (fun x hx => HB.out x (List.mem_reverse.1 hx))
      obtain ⟨p3, c3, rfl⟩ := own_lenF hO
      have HR : Hid _ := med_reverse HB.out
      clear hO hO'
      go_wp2_with fail
      refine (HMe.out _ _ _ (Elems.below HF.out hb) (by omega)).mono ?_
      rintro e w1 ⟨rfl, b1⟩
      have hb1 := hb.trans (b1.mono hb.size)
      go_wp2_with fail
      refine (HMr.out _ (Elems.below HF.out hb1)).mono ?_
      rintro e w2 ⟨rfl, b2⟩
      have hb2 := hb1.trans (b2.mono hb1.size)
      have b12 := b1.trans (b2.mono b1.size)
      go_wp2_with fail
      refine (HAl.out _ _).mono ?_
      rintro e w3 ⟨rfl, rfl⟩
      go_wp2_with fail
      refine (HMe.out _ _ _ (Elems.below HBk.out b12) (by rw [List.length_reverse]; omega)).mono ?_
      rintro e w4 ⟨rfl, b4⟩
      have hb4 := hb2.trans (b4.mono hb2.size)
      rw [HR.out]
      go_wp2_with fail
      refine (HAl.out _ _).mono ?_
      rintro e w5 ⟨rfl, rfl⟩
      go_wp2_with fail
      refine (awake_calls _).mono ?_
      rintro e w6 ⟨rfl, rfl⟩
      go_wp2
      go_ret
      exact ⟨rfl, hb4⟩
theorem quoteMedian_calls (lv : Value) (l : List Nat) (w : World) (hl : Fls w lv l) (hz : l.length * 8 ≤ 140737488351232) :
    Calls Try.prog 6 #[lv] w fun e w' => e = .returned (.bool true) ∧ Below w.heap.size w w' := by
  by_cases h3 : 200 < l.length
  · exact quoteMedian_long lv l w hl hz h3
  · exact quoteMedian_short lv l w hl hz h3
end Go.Proofs.Ytoblekdjncikaaa
