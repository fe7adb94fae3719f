/- QuoteSorted for every floats: what it answers. -/
import Derived.Test.YtoblekdjncikaaaQtSo
import Derived.Test.YtoblekdjncikaaaQtBl
namespace Go.Proofs.Ytoblekdjncikaaa
open Go.RowKit
set_option linter.unusedSimpArgs false
set_option linter.unusedVariables false

/-- What is left of a sorted list when k of it are written over. -/
def gA (s : List Nat) (k : Nat) : List Nat := List.replicate k 4635118810238550016 ++ s.drop k
theorem gA_at (s : List Nat) (k : Nat) (hk : k < s.length) : ((flC (gA s k)).toArray)[k]? = some (.float .f64 s[k]) := by
  have e1 : flC (gA s k) = flC (List.replicate k 4635118810238550016) ++ (.float .f64 s[k] :: flC (s.drop (k + 1))) := by
    unfold gA; rw [List.drop_eq_getElem_cons hk, show ∀ a b : List Nat, flC (a ++ b) = flC a ++ flC b from fun a b => by simp [flC]]; rfl
  rw [List.getElem?_toArray, e1, List.getElem?_append_right (by simp [flC])]
  simp [flC]
theorem gA_set (s : List Nat) (k : Nat) (hk : k < s.length) : (flC (gA s k)).toArray.setIfInBounds k (.float .f64 4635118810238550016) = (flC (gA s (k + 1))).toArray := by
  have ap : ∀ a b : List Nat, flC (a ++ b) = flC a ++ flC b := fun a b => by simp [flC]
  have e1 : flC (gA s k) = flC (List.replicate k 4635118810238550016) ++ [.float .f64 s[k]] ++ flC (s.drop (k + 1)) := by
    unfold gA; rw [List.drop_eq_getElem_cons hk, ap, List.append_assoc]; rfl
  have e2 : flC (gA s (k + 1)) = flC (List.replicate k 4635118810238550016) ++ [.float .f64 4635118810238550016] ++ flC (s.drop (k + 1)) := by
    unfold gA; rw [List.replicate_succ', ap, ap]; rfl
  have hlen : (flC (List.replicate k 4635118810238550016)).length = k := by simp [flC]
  rw [e1, e2]
  generalize flC (List.replicate k 4635118810238550016) = xs at *
  generalize flC (s.drop (k + 1)) = ys at *
  apply Array.ext'
  simp
  rw [List.set_append_right _ _ (by omega)]
  simp [hlen]
theorem below_drewNF (B : Nat) (w : World) (n : Nat) : Below B w (w.drewN n) := ⟨rfl, rfl, rfl, Nat.le_refl _, fun _ _ => rfl⟩
theorem alike_true (q : Nat) (w : World) : Calls Try.prog 10 #[.float .f64 q, .float .f64 q] w fun e w' => e = .returned (.bool true) ∧ w' = w := by
  have := alike_calls q q w
  rwa [show decide (q = q) = true from decide_eq_true rfl] at this

set_option maxHeartbeats 2000000 in
set_option maxRecDepth 100000 in
theorem quoteSorted_long (lv : Value) (l : List Nat) (w : World) (hl : Fls w lv l) (hz : l.length * 8 ≤ 140737488351232) (h3 : 300 < l.length) :
    Calls Try.prog 4 #[lv] w fun e w' => e = .returned (.bool true) ∧ Below w.heap.size w w' := by
  have hnot : ∀ (x : Bool) (w : World), (Op.unary .not (.bool x)).run Try.prog w = .ok (.bool (!x)) w := fun _ _ => rfl
  obtain ⟨i0, hi, hz0, hz1, hz3⟩ := info_parts infoFl
  have HAl : Hid _ := alike_true
  have hl3 : (l.take 300).length = 300 := by rw [List.length_take]; omega
  obtain ⟨p, c, rfl, hcap⟩ := fls_cap hl
  have hd0 : decide (300 < (l.length : Int)) = true := by simp only [decide_eq_true_eq]; omega
  have hlc : l.length ≤ c := by
    rcases hcap with rfl | h
    · simp at h3
    · exact h
  have hF := fls_take hl 300 (by omega)
  clear hl hcap
  have HF : Hid _ := hF
  have HB : Hid _ := fls_bound hF
  have HSo : Hid _ := fun v wx h => sorted_calls v (l.take 300) wx h (by omega)
  have HSr : Hid _ := fun wx h => refSorted_calls (.slice p 300 c) (l.take 300) wx h (by omega)
  rw [hl3] at HSo HSr
  generalize hl' : l.take 300 = l' at *
  clear hl'
  rcases hF with ⟨⟨pz, cz, hv⟩, rfl⟩ | ⟨b, off, c', hv, hb, hcap, hc⟩
  · simp at hl3
  simp only [Value.slice.injEq] at hv
  obtain ⟨rfl, -, rfl⟩ := hv
  have HC : Hid _ := hc
  clear hc hcap
  have h300 : 300 ≤ c := by omega
  go_enter Try.func4, Try.ntmps4
  go_wp2_with (at_builtin; refine wpList_append_own _ rfl (.tmp 13) (.tmp 14) 22 rfl w.heap.size 24 i0 (.float .f64 0) 1 8 Try.underlying22 hi hz0 hz1 hz3 rfl (by decide) (.slice none 0 0) 0 [] rfl (World.ownsRow_nil _ _ _ _) ⟨b, off, none⟩ 300 c (flC l') rfl (by rw [flC_len, hl3]) ?c1 ?c2 ?c3 ?c4 ?c5 ?_)
  case c1 => exact fls_cells HC.out
  case c2 => intro u hu; obtain ⟨z, rfl⟩ := flC_float hu; rfl
  case c3 => unfold maxLen; omega
  intro v' w1 hown' hgrow _
  have b1 : Below w.heap.size w w1 := below_grownF (Below.refl _ _) hgrow (fun k hk => by cases hk) (Nat.le_refl _)
  have hf1 := fls_of_own (l := l') (by rw [hl3]; exact hown') HB.out
  obtain ⟨a', c', hv', hcc⟩ := hf1.any
  rw [hl3] at hv'
  subst hv'
  have HF1 : Hid _ := hf1
  have HM : Hid _ := hcc
  clear hf1 hcc hown' hgrow
  go_wp2_with fail
  refine (HSo.out _ _ HF1.out).mono ?_
  rintro e w2 ⟨g, rfl, hg, hX, b2⟩
  have b12 := b1.trans (b2.mono b1.size)
  have z1 := b1.size
  have z2 := b2.size
  have HX : Hid _ := hX
  clear hX
  go_wp2_with fail
  refine (HSr.out _ (Elems.below HF.out b12)).mono ?_
  rintro e w3 ⟨vw, rfl, ho, b3⟩
  obtain ⟨p', cw, hvw⟩ := own_lenF ho
  subst hvw
  have z3 := b3.size
  have b13 := b12.trans (b3.mono b12.size)
  have HX3 : Hid _ := Blk.below HX.out b3
  have hgl : g < w2.heap.size := Blk.lt HX.out
  have HOw : Hid _ := ho
  clear ho
  have hne : ((300 : Int) != (300 : Int)) = false := by simp
  go_wp2_with fail
  go_loopw [6] (fun i wr => ∃ k : Nat, k ≤ 300 ∧ i = .int .i64 k ∧ Off g w3 wr ∧ Blk wr g (flC (gA (srtR l') k)).toArray 24) (fun i _ => 300 - (intOf i).toNat)
  case atStart => exact ⟨0, Nat.zero_le _, rfl, Off.refl _ _, HX3.out⟩
  case round =>
    obtain ⟨k, hk, rfl, hoff, hXk⟩ := hrel
    by_cases hlt : k < 300
    · have hd : decide ((k : Int) < (300 : Int)) = true := by simp only [decide_eq_true_eq]; omega
      have hkl : k < l'.length := by omega
      obtain ⟨g1, o1, ha', hl1, hg1, hc1, hq1⟩ := HM.out k hkl
      subst ha'
      have hks : k < (srtR l').length := by rw [srtR_length]; exact hkl
      obtain ⟨g3, hp', hcw, hg3, hc3⟩ := own_cellF HOw.out k hks (by rw [srtR_length, hl3])
      subst hp'
      have hg3n : g3 ≠ g := by
        have := World.ownsRow.lt HOw.out g3 rfl
        omega
      have c1 : wr.cell? ⟨g, k, none⟩ = some (.float .f64 (srtR l')[k]) := hXk.cell (gA_at (srtR l') k hks)
      have c2 : wr.cell? ⟨g3, k, none⟩ = some (.float .f64 (srtR l')[k]) := (hoff.cell (p := ⟨g3, k, none⟩) hg3 hg3n).trans hc3
      have c3 : wr.cell? ⟨g1, o1 + k, none⟩ = some (.float .f64 l'[k]) := by
        rw [hoff.cell (p := ⟨g1, o1 + k, none⟩) (show g1 < w3.heap.size by omega) (show g1 ≠ g by omega), b3.cell (p := ⟨g1, o1 + k, none⟩) (show g1 < w2.heap.size by omega), b2.cell (p := ⟨g1, o1 + k, none⟩) hg1]
        have := hc1 0 _ rfl
        simpa using this
      have c4 : wr.cell? ⟨b, off + k, none⟩ = some (.float .f64 l'[k]) := by
        rw [hoff.cell (p := ⟨b, off + k, none⟩) (show b < w3.heap.size by omega) (show b ≠ g by omega), b13.cell (p := ⟨b, off + k, none⟩) hb]
        have := (HC.out k hkl).1 0 _ rfl
        simpa using this
      have hf := hXk.frozen (o := k)
      have HS : Hid _ := gA_set (srtR l') k hks
      have HXk : Hid _ := hXk
      clear hXk hc1 hc3
      generalize (srtR l')[k] = x at *
      generalize l'[k] = y at *
      go_wp2_with fail
      go_quiet ((go_at_call 10; exact Calls.quiet_of_same (HAl.out _ _)))
      go_wp2_with fail
      refine ⟨⟨k + 1, by omega, by go_num, (hoff.trans (Off.of_below (below_drewNF _ _ _))).setCell rfl _, ?_⟩, by simp [intOf]; omega⟩
      rw [← HS.out]; exact Blk.set (Blk.below HXk.out (below_drewNF _ _ _)) _ _
    · have hd : decide ((k : Int) < (300 : Int)) = false := by simp only [decide_eq_false_iff_not]; omega
      clear hXk
      go_wp2_with fail
      rename World => W4
      go_loopw [7] (fun i wr => ∃ k : Nat, k ≤ 300 ∧ i = .int .i64 k ∧ Off g w3 wr) (fun i _ => 300 - (intOf i).toNat)
      case atStart => exact ⟨0, Nat.zero_le _, rfl, hoff⟩
      case round =>
        rename World => W5
        obtain ⟨j, hj, rfl, hoff5⟩ := hrel
        by_cases hlt2 : j < 300
        · have hd5 : decide ((j : Int) < (300 : Int)) = true := by simp only [decide_eq_true_eq]; omega
          have hkl : j < l'.length := by omega
          obtain ⟨g1, o1, ha', hl1, hg1, hc1, hq1⟩ := HM.out j hkl
          subst ha'
          have c3 : W5.cell? ⟨g1, o1 + j, none⟩ = some (.float .f64 l'[j]) := by
            rw [hoff5.cell (p := ⟨g1, o1 + j, none⟩) (show g1 < w3.heap.size by omega) (show g1 ≠ g by omega), b3.cell (p := ⟨g1, o1 + j, none⟩) (show g1 < w2.heap.size by omega), b2.cell (p := ⟨g1, o1 + j, none⟩) hg1]
            have := hc1 0 _ rfl
            simpa using this
          have c4 : W5.cell? ⟨b, off + j, none⟩ = some (.float .f64 l'[j]) := by
            rw [hoff5.cell (p := ⟨b, off + j, none⟩) (show b < w3.heap.size by omega) (show b ≠ g by omega), b13.cell (p := ⟨b, off + j, none⟩) hb]
            have := (HC.out j hkl).1 0 _ rfl
            simpa using this
          clear hc1
          generalize l'[j] = y at *
          go_wp2_with fail
          go_quiet ((go_at_call 10; exact Calls.quiet_of_same (HAl.out _ _)))
          go_wp2_with fail
          exact ⟨⟨j + 1, by omega, by go_num, hoff5.trans (Off.of_below (below_drewNF _ _ _))⟩, by simp [intOf]; omega⟩
        · have hd5 : decide ((j : Int) < (300 : Int)) = false := by simp only [decide_eq_false_iff_not]; omega
          go_wp2_with fail
          refine (awake_calls _).mono ?_
          rintro e w6 ⟨rfl, rfl⟩
          go_wp2
          go_ret
          exact ⟨rfl, hoff5.below (show w.heap.size ≤ g by omega) b13 b13.size⟩
set_option maxHeartbeats 2000000 in
set_option maxRecDepth 100000 in
theorem quoteSorted_short (lv : Value) (l : List Nat) (w : World) (hl : Fls w lv l) (hz : l.length * 8 ≤ 140737488351232) (h3 : ¬ 300 < l.length) :
    Calls Try.prog 4 #[lv] w fun e w' => e = .returned (.bool true) ∧ Below w.heap.size w w' := by
  have hnot : ∀ (x : Bool) (w : World), (Op.unary .not (.bool x)).run Try.prog w = .ok (.bool (!x)) w := fun _ _ => rfl
  obtain ⟨i0, hi, hz0, hz1, hz3⟩ := info_parts infoFl
  have HAl : Hid _ := alike_true
  have HF : Hid _ := hl
  have HB : Hid _ := fls_bound hl
  have HSo : Hid _ := fun v wx h => sorted_calls v l wx h (by omega)
  have HSr : Hid _ := fun wx h => refSorted_calls lv l wx h (by omega)
  rcases hl with ⟨⟨pz, cz, rfl⟩, rfl⟩ | ⟨b, off, c, rfl, hb, hcap, hc⟩
  · have hd : decide (300 < (([] : List Nat).length : Int)) = false := by simp
    simp only [List.length_nil] at HSo HSr
    go_enter Try.func4, Try.ntmps4
    go_wp2_with (at_builtin; refine wpList_append_givenF _ rfl (.tmp 13) (.tmp 14) 22 rfl _ _ rfl rfl (append_emptyF pz cz _) ?_)
    go_wp2_with fail
    refine (HSo.out _ _ (Or.inl ⟨⟨none, 0, rfl⟩, rfl⟩)).mono ?_
    rintro e w2 ⟨g, rfl, hg, hX, b2⟩
    go_wp2_with fail
    refine (HSr.out _ (Or.inl ⟨⟨pz, cz, rfl⟩, rfl⟩)).mono ?_
    rintro e w3 ⟨vw, rfl, ho, b3⟩
    obtain ⟨p', cw, hvw⟩ := own_lenF ho
    subst hvw
    clear ho hX
    go_wp2_with fail
    refine wp_loop_rounds 1 ?_
    rw [rounds_succ]
    go_wp2_with fail
    refine wp_loop_rounds 1 ?_
    rw [rounds_succ]
    go_wp2_with fail
    refine (awake_calls _).mono ?_
    rintro e w6 ⟨rfl, rfl⟩
    go_wp2
    go_ret
    exact ⟨rfl, b2.trans (b3.mono b2.size)⟩
  have hd : decide (300 < (l.length : Int)) = false := by simp only [decide_eq_false_iff_not]; omega
  have HC : Hid _ := hc
  clear hc
  go_enter Try.func4, Try.ntmps4
  go_wp2_with (at_builtin; refine wpList_append_own _ rfl (.tmp 13) (.tmp 14) 22 rfl w.heap.size 24 i0 (.float .f64 0) 1 8 Try.underlying22 hi hz0 hz1 hz3 rfl (by decide) (.slice none 0 0) 0 [] rfl (World.ownsRow_nil _ _ _ _) ⟨b, off, none⟩ l.length c (flC l) rfl (flC_len l) ?c1 ?c2 ?c3 ?c4 ?c5 ?_)
  case c1 => exact fls_cells HC.out
  case c2 => intro u hu; obtain ⟨z, rfl⟩ := flC_float hu; rfl
  case c3 => unfold maxLen; omega
  case c4 => omega
  intro v' w1 hown' hgrow _
  have b1 : Below w.heap.size w w1 := below_grownF (Below.refl _ _) hgrow (fun k hk => by cases hk) (Nat.le_refl _)
  have hf1 := fls_of_own (l := l) hown' HB.out
  obtain ⟨a', c', hv', hcc⟩ := hf1.any
  subst hv'
  have HF1 : Hid _ := hf1
  have HM : Hid _ := hcc
  clear hf1 hcc hown' hgrow
  go_wp2_with fail
  refine (HSo.out _ _ HF1.out).mono ?_
  rintro e w2 ⟨g, rfl, hg, hX, b2⟩
  have b12 := b1.trans (b2.mono b1.size)
  have z1 := b1.size
  have z2 := b2.size
  have HX : Hid _ := hX
  clear hX
  go_wp2_with fail
  refine (HSr.out _ (Elems.below HF.out b12)).mono ?_
  rintro e w3 ⟨vw, rfl, ho, b3⟩
  obtain ⟨p', cw, hvw⟩ := own_lenF ho
  subst hvw
  have z3 := b3.size
  have b13 := b12.trans (b3.mono b12.size)
  have HX3 : Hid _ := Blk.below HX.out b3
  have hgl : g < w2.heap.size := Blk.lt HX.out
  have HOw : Hid _ := ho
  clear ho
  have hne : ((l.length : Int) != (l.length : Int)) = false := by simp
  go_wp2_with fail
  go_loopw [6] (fun i wr => ∃ k : Nat, k ≤ l.length ∧ i = .int .i64 k ∧ Off g w3 wr ∧ Blk wr g (flC (gA (srtR l) k)).toArray 24) (fun i _ => l.length - (intOf i).toNat)
  case atStart => exact ⟨0, Nat.zero_le _, rfl, Off.refl _ _, HX3.out⟩
  case round =>
    obtain ⟨k, hk, rfl, hoff, hXk⟩ := hrel
    by_cases hlt : k < l.length
    · have hd : decide ((k : Int) < (l.length : Int)) = true := by simp only [decide_eq_true_eq]; omega
      have hkl : k < l.length := hlt
      obtain ⟨g1, o1, ha', hl1, hg1, hc1, hq1⟩ := HM.out k hkl
      subst ha'
      have hks : k < (srtR l).length := by rw [srtR_length]; exact hkl
      obtain ⟨g3, hp', hcw, hg3, hc3⟩ := own_cellF HOw.out k hks (srtR_length l)
      subst hp'
      have hg3n : g3 ≠ g := by
        have := World.ownsRow.lt HOw.out g3 rfl
        omega
      have c1 : wr.cell? ⟨g, k, none⟩ = some (.float .f64 (srtR l)[k]) := hXk.cell (gA_at (srtR l) k hks)
      have c2 : wr.cell? ⟨g3, k, none⟩ = some (.float .f64 (srtR l)[k]) := (hoff.cell (p := ⟨g3, k, none⟩) hg3 hg3n).trans hc3
      have c3 : wr.cell? ⟨g1, o1 + k, none⟩ = some (.float .f64 l[k]) := by
        rw [hoff.cell (p := ⟨g1, o1 + k, none⟩) (show g1 < w3.heap.size by omega) (show g1 ≠ g by omega), b3.cell (p := ⟨g1, o1 + k, none⟩) (show g1 < w2.heap.size by omega), b2.cell (p := ⟨g1, o1 + k, none⟩) hg1]
        have := hc1 0 _ rfl
        simpa using this
      have c4 : wr.cell? ⟨b, off + k, none⟩ = some (.float .f64 l[k]) := by
        rw [hoff.cell (p := ⟨b, off + k, none⟩) (show b < w3.heap.size by omega) (show b ≠ g by omega), b13.cell (p := ⟨b, off + k, none⟩) hb]
        have := (HC.out k hkl).1 0 _ rfl
        simpa using this
      have hf := hXk.frozen (o := k)
      have HS : Hid _ := gA_set (srtR l) k hks
      have HXk : Hid _ := hXk
      clear hXk hc1 hc3
      generalize (srtR l)[k] = x at *
      generalize l[k] = y at *
      go_wp2_with fail
      go_quiet ((go_at_call 10; exact Calls.quiet_of_same (HAl.out _ _)))
      go_wp2_with fail
      refine ⟨⟨k + 1, by omega, by go_num, (hoff.trans (Off.of_below (below_drewNF _ _ _))).setCell rfl _, ?_⟩, by simp [intOf]; omega⟩
      rw [← HS.out]; exact Blk.set (Blk.below HXk.out (below_drewNF _ _ _)) _ _
    · have hd : decide ((k : Int) < (l.length : Int)) = false := by simp only [decide_eq_false_iff_not]; omega
      clear hXk
      go_wp2_with fail
      rename World => W4
      go_loopw [7] (fun i wr => ∃ k : Nat, k ≤ l.length ∧ i = .int .i64 k ∧ Off g w3 wr) (fun i _ => l.length - (intOf i).toNat)
      case atStart => exact ⟨0, Nat.zero_le _, rfl, hoff⟩
      case round =>
        rename World => W5
        obtain ⟨j, hj, rfl, hoff5⟩ := hrel
        by_cases hlt2 : j < l.length
        · have hd5 : decide ((j : Int) < (l.length : Int)) = true := by simp only [decide_eq_true_eq]; omega
          have hkl : j < l.length := hlt2
          obtain ⟨g1, o1, ha', hl1, hg1, hc1, hq1⟩ := HM.out j hkl
          subst ha'
          have c3 : W5.cell? ⟨g1, o1 + j, none⟩ = some (.float .f64 l[j]) := by
            rw [hoff5.cell (p := ⟨g1, o1 + j, none⟩) (show g1 < w3.heap.size by omega) (show g1 ≠ g by omega), b3.cell (p := ⟨g1, o1 + j, none⟩) (show g1 < w2.heap.size by omega), b2.cell (p := ⟨g1, o1 + j, none⟩) hg1]
            have := hc1 0 _ rfl
            simpa using this
          have c4 : W5.cell? ⟨b, off + j, none⟩ = some (.float .f64 l[j]) := by
            rw [hoff5.cell (p := ⟨b, off + j, none⟩) (show b < w3.heap.size by omega) (show b ≠ g by omega), b13.cell (p := ⟨b, off + j, none⟩) hb]
            have := (HC.out j hkl).1 0 _ rfl
            simpa using this
          clear hc1
          generalize l[j] = y at *
          go_wp2_with fail
          go_quiet ((go_at_call 10; exact Calls.quiet_of_same (HAl.out _ _)))
          go_wp2_with fail
          exact ⟨⟨j + 1, by omega, by go_num, hoff5.trans (Off.of_below (below_drewNF _ _ _))⟩, by simp [intOf]; omega⟩
        · have hd5 : decide ((j : Int) < (l.length : Int)) = false := by simp only [decide_eq_false_iff_not]; omega
          go_wp2_with fail
          refine (awake_calls _).mono ?_
          rintro e w6 ⟨rfl, rfl⟩
          go_wp2
          go_ret
          exact ⟨rfl, hoff5.below (show w.heap.size ≤ g by omega) b13 b13.size⟩
theorem quoteSorted_calls (lv : Value) (l : List Nat) (w : World) (hl : Fls w lv l) (hz : l.length * 8 ≤ 140737488351232) :
    Calls Try.prog 4 #[lv] w fun e w' => e = .returned (.bool true) ∧ Below w.heap.size w w' := by
  by_cases h3 : 300 < l.length
  · exact quoteSorted_long lv l w hl hz h3
  · exact quoteSorted_short lv l w hl hz h3
end Go.Proofs.Ytoblekdjncikaaa
