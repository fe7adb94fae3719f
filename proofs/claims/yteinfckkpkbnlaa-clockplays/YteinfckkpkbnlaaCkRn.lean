/- The document's New. -/
import Derived.Test.YteinfckkpkbnlaaCkRc
import Derived.Test.YteinfckkpkbnlaaCkH

namespace Go.Proofs.Yteinfckkpkbnlaa
open Go.RowKit
set_option linter.unusedSimpArgs false
set_option linter.unusedVariables false

theorem two_zero (w : World) : ∃ W, (w.alloc (.cells #[.int .i64 0, .int .i64 0, .int .i64 0, .int .i64 0, .slice none 0 0] 30)).alloc (.cells #[.int .i64 0, .int .i64 0, .int .i64 0, .int .i64 0, .slice none 0 0] 30) = W ∧ Blk W w.heap.size #[.int .i64 0, .int .i64 0, .int .i64 0, .int .i64 0, .slice none 0 0] 30 ∧ Blk W (w.heap.size + 1) #[.int .i64 0, .int .i64 0, .int .i64 0, .int .i64 0, .slice none 0 0] 30 ∧ Below w.heap.size w W ∧ W.heap.size = w.heap.size + 2 := by
  have X : Blk (w.alloc (.cells #[.int .i64 0, .int .i64 0, .int .i64 0, .int .i64 0, .slice none 0 0] 30)) w.heap.size #[.int .i64 0, .int .i64 0, .int .i64 0, .int .i64 0, .slice none 0 0] 30 := blk_new _ _ _ _ rfl
  exact ⟨_, rfl, X.alloc _, blk_new _ _ _ _ (by simp), by go_grown, by simp⟩
set_option maxRecDepth 100000 in
set_option maxHeartbeats 2000000 in
theorem refnew_bad (s q d n : Int) (w : World) (h : ¬ Au.fits s q d n) : Calls Try.prog 5 #[.int .i64 s, .int .i64 q, .int .i64 d, .int .i64 n] w fun e w' => e = .returned (.tuple #[.agg #[.int .i64 0, .int .i64 0, .int .i64 0, .int .i64 0, .slice none 0 0], .bool false]) ∧ Below w.heap.size w w' := by
  obtain ⟨W, hW, X, Y, B, hz⟩ := two_zero w
  have s0 : W.cell? ⟨w.heap.size, 0, none⟩ = some (.int .i64 0) := X.cell rfl
  have s1 : W.cell? ⟨w.heap.size, 1, none⟩ = some (.int .i64 0) := X.cell rfl
  have s2 : W.cell? ⟨w.heap.size, 2, none⟩ = some (.int .i64 0) := X.cell rfl
  have s3 : W.cell? ⟨w.heap.size, 3, none⟩ = some (.int .i64 0) := X.cell rfl
  have s4 : W.cell? ⟨w.heap.size, 4, none⟩ = some (.slice none 0 0) := X.cell rfl
  by_cases h0 : s < 1
  · have d0 : decide (s < 1) = true := decide_eq_true h0
    clear h s0 s1 s2 s3 s4 X Y hz hW
    go_enter Try.func5, Try.ntmps5
    go_wp2
    obtain ⟨W, hW, X, Y, B, hz⟩ := two_zero w
    rw [hW]
    have s0 : W.cell? ⟨w.heap.size, 0, none⟩ = some (.int .i64 0) := X.cell rfl
    have s1 : W.cell? ⟨w.heap.size, 1, none⟩ = some (.int .i64 0) := X.cell rfl
    have s2 : W.cell? ⟨w.heap.size, 2, none⟩ = some (.int .i64 0) := X.cell rfl
    have s3 : W.cell? ⟨w.heap.size, 3, none⟩ = some (.int .i64 0) := X.cell rfl
    have s4 : W.cell? ⟨w.heap.size, 4, none⟩ = some (.slice none 0 0) := X.cell rfl
    refine bodyPost_ret (by simp [results, Try.results5, go_sem, s0, s1, s2, s3, s4]; rfl) rfl ?_
    exact ⟨rfl, B⟩
  have d0 : decide (s < 1) = false := decide_eq_false h0
  by_cases h1 : 1048576 < s
  · have d1 : decide (1048576 < s) = true := decide_eq_true h1
    clear h s0 s1 s2 s3 s4 X Y hz hW
    go_enter Try.func5, Try.ntmps5
    go_wp2
    obtain ⟨W, hW, X, Y, B, hz⟩ := two_zero w
    rw [hW]
    have s0 : W.cell? ⟨w.heap.size, 0, none⟩ = some (.int .i64 0) := X.cell rfl
    have s1 : W.cell? ⟨w.heap.size, 1, none⟩ = some (.int .i64 0) := X.cell rfl
    have s2 : W.cell? ⟨w.heap.size, 2, none⟩ = some (.int .i64 0) := X.cell rfl
    have s3 : W.cell? ⟨w.heap.size, 3, none⟩ = some (.int .i64 0) := X.cell rfl
    have s4 : W.cell? ⟨w.heap.size, 4, none⟩ = some (.slice none 0 0) := X.cell rfl
    refine bodyPost_ret (by simp [results, Try.results5, go_sem, s0, s1, s2, s3, s4]; rfl) rfl ?_
    exact ⟨rfl, B⟩
  have d1 : decide (1048576 < s) = false := decide_eq_false h1
  by_cases h2 : q < 0
  · have d2 : decide (q < 0) = true := decide_eq_true h2
    clear h s0 s1 s2 s3 s4 X Y hz hW
    go_enter Try.func5, Try.ntmps5
    go_wp2
    obtain ⟨W, hW, X, Y, B, hz⟩ := two_zero w
    rw [hW]
    have s0 : W.cell? ⟨w.heap.size, 0, none⟩ = some (.int .i64 0) := X.cell rfl
    have s1 : W.cell? ⟨w.heap.size, 1, none⟩ = some (.int .i64 0) := X.cell rfl
    have s2 : W.cell? ⟨w.heap.size, 2, none⟩ = some (.int .i64 0) := X.cell rfl
    have s3 : W.cell? ⟨w.heap.size, 3, none⟩ = some (.int .i64 0) := X.cell rfl
    have s4 : W.cell? ⟨w.heap.size, 4, none⟩ = some (.slice none 0 0) := X.cell rfl
    refine bodyPost_ret (by simp [results, Try.results5, go_sem, s0, s1, s2, s3, s4]; rfl) rfl ?_
    exact ⟨rfl, B⟩
  have d2 : decide (q < 0) = false := decide_eq_false h2
  by_cases h3 : 1099511627776 < q
  · have d3 : decide (1099511627776 < q) = true := decide_eq_true h3
    clear h s0 s1 s2 s3 s4 X Y hz hW
    go_enter Try.func5, Try.ntmps5
    go_wp2
    obtain ⟨W, hW, X, Y, B, hz⟩ := two_zero w
    rw [hW]
    have s0 : W.cell? ⟨w.heap.size, 0, none⟩ = some (.int .i64 0) := X.cell rfl
    have s1 : W.cell? ⟨w.heap.size, 1, none⟩ = some (.int .i64 0) := X.cell rfl
    have s2 : W.cell? ⟨w.heap.size, 2, none⟩ = some (.int .i64 0) := X.cell rfl
    have s3 : W.cell? ⟨w.heap.size, 3, none⟩ = some (.int .i64 0) := X.cell rfl
    have s4 : W.cell? ⟨w.heap.size, 4, none⟩ = some (.slice none 0 0) := X.cell rfl
    refine bodyPost_ret (by simp [results, Try.results5, go_sem, s0, s1, s2, s3, s4]; rfl) rfl ?_
    exact ⟨rfl, B⟩
  have d3 : decide (1099511627776 < q) = false := decide_eq_false h3
  by_cases h4 : d < 1
  · have d4 : decide (d < 1) = true := decide_eq_true h4
    clear h s0 s1 s2 s3 s4 X Y hz hW
    go_enter Try.func5, Try.ntmps5
    go_wp2
    obtain ⟨W, hW, X, Y, B, hz⟩ := two_zero w
    rw [hW]
    have s0 : W.cell? ⟨w.heap.size, 0, none⟩ = some (.int .i64 0) := X.cell rfl
    have s1 : W.cell? ⟨w.heap.size, 1, none⟩ = some (.int .i64 0) := X.cell rfl
    have s2 : W.cell? ⟨w.heap.size, 2, none⟩ = some (.int .i64 0) := X.cell rfl
    have s3 : W.cell? ⟨w.heap.size, 3, none⟩ = some (.int .i64 0) := X.cell rfl
    have s4 : W.cell? ⟨w.heap.size, 4, none⟩ = some (.slice none 0 0) := X.cell rfl
    refine bodyPost_ret (by simp [results, Try.results5, go_sem, s0, s1, s2, s3, s4]; rfl) rfl ?_
    exact ⟨rfl, B⟩
  have d4 : decide (d < 1) = false := decide_eq_false h4
  by_cases h5 : 1099511627776 < d
  · have d5 : decide (1099511627776 < d) = true := decide_eq_true h5
    clear h s0 s1 s2 s3 s4 X Y hz hW
    go_enter Try.func5, Try.ntmps5
    go_wp2
    obtain ⟨W, hW, X, Y, B, hz⟩ := two_zero w
    rw [hW]
    have s0 : W.cell? ⟨w.heap.size, 0, none⟩ = some (.int .i64 0) := X.cell rfl
    have s1 : W.cell? ⟨w.heap.size, 1, none⟩ = some (.int .i64 0) := X.cell rfl
    have s2 : W.cell? ⟨w.heap.size, 2, none⟩ = some (.int .i64 0) := X.cell rfl
    have s3 : W.cell? ⟨w.heap.size, 3, none⟩ = some (.int .i64 0) := X.cell rfl
    have s4 : W.cell? ⟨w.heap.size, 4, none⟩ = some (.slice none 0 0) := X.cell rfl
    refine bodyPost_ret (by simp [results, Try.results5, go_sem, s0, s1, s2, s3, s4]; rfl) rfl ?_
    exact ⟨rfl, B⟩
  have d5 : decide (1099511627776 < d) = false := decide_eq_false h5
  by_cases h6 : n < 1
  · have d6 : decide (n < 1) = true := decide_eq_true h6
    clear h s0 s1 s2 s3 s4 X Y hz hW
    go_enter Try.func5, Try.ntmps5
    go_wp2
    obtain ⟨W, hW, X, Y, B, hz⟩ := two_zero w
    rw [hW]
    have s0 : W.cell? ⟨w.heap.size, 0, none⟩ = some (.int .i64 0) := X.cell rfl
    have s1 : W.cell? ⟨w.heap.size, 1, none⟩ = some (.int .i64 0) := X.cell rfl
    have s2 : W.cell? ⟨w.heap.size, 2, none⟩ = some (.int .i64 0) := X.cell rfl
    have s3 : W.cell? ⟨w.heap.size, 3, none⟩ = some (.int .i64 0) := X.cell rfl
    have s4 : W.cell? ⟨w.heap.size, 4, none⟩ = some (.slice none 0 0) := X.cell rfl
    refine bodyPost_ret (by simp [results, Try.results5, go_sem, s0, s1, s2, s3, s4]; rfl) rfl ?_
    exact ⟨rfl, B⟩
  have d6 : decide (n < 1) = false := decide_eq_false h6
  by_cases h7 : 16 < n
  · have d7 : decide (16 < n) = true := decide_eq_true h7
    clear h s0 s1 s2 s3 s4 X Y hz hW
    go_enter Try.func5, Try.ntmps5
    go_wp2
    obtain ⟨W, hW, X, Y, B, hz⟩ := two_zero w
    rw [hW]
    have s0 : W.cell? ⟨w.heap.size, 0, none⟩ = some (.int .i64 0) := X.cell rfl
    have s1 : W.cell? ⟨w.heap.size, 1, none⟩ = some (.int .i64 0) := X.cell rfl
    have s2 : W.cell? ⟨w.heap.size, 2, none⟩ = some (.int .i64 0) := X.cell rfl
    have s3 : W.cell? ⟨w.heap.size, 3, none⟩ = some (.int .i64 0) := X.cell rfl
    have s4 : W.cell? ⟨w.heap.size, 4, none⟩ = some (.slice none 0 0) := X.cell rfl
    refine bodyPost_ret (by simp [results, Try.results5, go_sem, s0, s1, s2, s3, s4]; rfl) rfl ?_
    exact ⟨rfl, B⟩
  have d7 : decide (16 < n) = false := decide_eq_false h7
  exact absurd ⟨⟨by omega, by omega⟩, ⟨by omega, by omega⟩, ⟨by omega, by omega⟩, ⟨by omega, by omega⟩⟩ h
set_option maxRecDepth 100000 in
set_option maxHeartbeats 2000000 in
theorem refnew_ok (s q d n : Int) (w : World) (h : Au.fits s q d n) : Calls Try.prog 5 #[.int .i64 s, .int .i64 q, .int .i64 d, .int .i64 n] w fun e w' => ∃ g cap rs, e = .returned (.tuple #[rfV (Au.new s q d n.toNat) 1 g cap, .bool true]) ∧ Rf w' (Au.new s q d n.toNat) 1 g cap rs ∧ Below w.heap.size w w' := by
  obtain ⟨i0, hi, hz0, hz1, hz2⟩ := info_parts infoInt
  have HI : Hid _ := Inv.new h
  obtain ⟨h1, h2, h3, h4⟩ := h
  have d1 : decide (s < 1) = false := decide_eq_false (by omega)
  have d2 : decide (1048576 < s) = false := decide_eq_false (by omega)
  have d3 : decide (q < 0) = false := decide_eq_false (by omega)
  have d4 : decide (1099511627776 < q) = false := decide_eq_false (by omega)
  have d5 : decide (d < 1) = false := decide_eq_false (by omega)
  have d6 : decide (1099511627776 < d) = false := decide_eq_false (by omega)
  have d7 : decide (n < 1) = false := decide_eq_false (by omega)
  have d8 : decide (16 < n) = false := decide_eq_false (by omega)
  obtain ⟨m, rfl⟩ := Int.eq_ofNat_of_zero_le (show 0 ≤ n by omega)
  rw [Int.toNat_natCast] at *
  go_enter Try.func5, Try.ntmps5
  go_wp2
  obtain ⟨W0, hW0, X0, Y0, B0, hz⟩ := two_zero w
  go_loopw [11, 12] (fun o i wr => ∃ k : Nat, k ≤ m ∧ i = .int .i64 k ∧ wr.ownsRow (w.heap.size + 2) 3 1 o k (iL (tab k (fun _ => 0))) ∧ Below w.heap.size w wr ∧ Blk wr w.heap.size #[.int .i64 0, .int .i64 0, .int .i64 0, .int .i64 0, .slice none 0 0] 30 ∧ w.heap.size + 2 ≤ wr.heap.size) (fun _ i _ => m - (intOf i).toNat)
  case atStart => rw [hW0]; exact ⟨0, Nat.zero_le _, rfl, World.ownsRow_nil _ _ _ _, B0, X0, by omega⟩
  case round =>
    obtain ⟨k, hk, rfl, ho, br, XR, hzr⟩ := hrel
    clear X0 Y0 hW0 B0 hz
    by_cases hlt : k < m
    · have hd : decide ((k : Int) < m) = true := by simp only [decide_eq_true_eq]; omega
      have HO : Hid _ := ho
      have HT : Hid _ := tab_snoc k (fun _ => 0)
      have HX : Hid _ := XR
      clear ho XR
      go_wp2_with (at_builtin; refine wpList_append_own _ rfl (.tmp 49) (.tmp 50) 43 rfl (w.heap.size + 2) 3 i0 (.int .i64 0) 1 8 Try.underlying43 hi hz0 hz1 hz2 rfl (by decide) _ _ _ rfl (World.ownsRow.alloc HO.out _) ⟨wr.heap.size, 0, none⟩ 1 1 [.int .i64 0] rfl rfl ?c1 ?c2 ?c3 ?c4 ?c5 ?_)
      case c1 => exact cell_one_new _ _ _
      case c2 => intro u hu; simp at hu; subst hu; rfl
      case c3 => unfold maxLen; omega
      case c4 => omega
      case c5 => simp; omega
      intro v' w4 ho' hg' _
      have zg := hg'.size
      go_wp2
      have hsz : (wr.alloc (.cells #[.int .i64 0] 3)).heap.size = wr.heap.size + 1 := by simp
      refine ⟨⟨k + 1, by omega, by norm_cast, ?_, ?_, ?_, by omega⟩, by simp [intOf]; omega⟩
      · rw [HT.out, iL_snoc]; exact ho'
      · exact below_grownC (br.alloc (by omega) _) hg' (fun q hq => by have := (World.ownsRow.lt HO.out q hq).1; omega) (by simp; omega)
      · refine (hg'.block _ (by rw [hsz]; omega) (fun e => ?_)).trans ((show Blk wr w.heap.size #[.int .i64 0, .int .i64 0, .int .i64 0, .int .i64 0, .slice none 0 0] 30 from HX.out).alloc _)
        have := (World.ownsRow.lt HO.out _ e.symm).1
        omega
    · have hd : decide ((k : Int) < m) = false := by simp only [decide_eq_false_iff_not]; omega
      have hkk : k = m := by omega
      subst hkk
      have hrw : Rwn wr (w.heap.size + 2) u11 (tab k (fun _ => 0)) := rwn_own (by rw [tab_len]; exact ho)
      obtain ⟨gl, cl, cur, hu, hgb, XL, hcur⟩ := hrw.block' (by rw [tab_len]; omega)
      rw [tab_len] at hu hcur
      subst hu
      clear ho hrw hlt hd
      have hga := XL.lt
      obtain ⟨W1, hW1, X1, C1, L1, B1, hs1⟩ : ∃ W1, wr.alloc (.cells #[.slice (some ⟨gl, 0, none⟩) k cl] 43) = W1 ∧ Blk W1 w.heap.size #[.int .i64 0, .int .i64 0, .int .i64 0, .int .i64 0, .slice none 0 0] 30 ∧ Blk W1 wr.heap.size #[.slice (some ⟨gl, 0, none⟩) k cl] 43 ∧ Blk W1 gl cur 3 ∧ Below w.heap.size w W1 ∧ W1.heap.size = wr.heap.size + 1 := ⟨_, rfl, XR.alloc _, blk_new _ _ _ _ rfl, XL.alloc _, br.alloc (by omega) _, by simp⟩
      obtain ⟨W2, hW2, X2, C2, L2, B2⟩ : ∃ W2, W1.setRow w.heap.size (rfA (Au.new s q d k) 1 wr.heap.size 1) = W2 ∧ Blk W2 w.heap.size (rfA (Au.new s q d k) 1 wr.heap.size 1) 30 ∧ Blk W2 wr.heap.size #[.slice (some ⟨gl, 0, none⟩) k cl] 43 ∧ Blk W2 gl cur 3 ∧ Below w.heap.size w W2 := ⟨_, rfl, X1.setRow _, (setRow_other _ _ _ _ (by omega)).trans C1, (setRow_other _ _ _ _ (by omega)).trans L1, below_setRow B1 _ _ (by omega)⟩
      have s0 : W2.cell? ⟨w.heap.size, 0, none⟩ = some (.int .i64 s) := X2.cell rfl
      have s1 : W2.cell? ⟨w.heap.size, 1, none⟩ = some (.int .i64 q) := X2.cell rfl
      have s2 : W2.cell? ⟨w.heap.size, 2, none⟩ = some (.int .i64 d) := X2.cell rfl
      have s3 : W2.cell? ⟨w.heap.size, 3, none⟩ = some (.int .i64 0) := X2.cell rfl
      have s4 : W2.cell? ⟨w.heap.size, 4, none⟩ = some (.slice (some ⟨wr.heap.size, 0, none⟩) 1 1) := X2.cell rfl
      have HRf : Hid (Rf W2 (Au.new s q d k) 1 wr.heap.size 1 (fun _ => .slice (some ⟨gl, 0, none⟩) k cl)) := by
        refine ⟨rfl, C2.lt, fun i hi => ?_, fun i _ => ⟨_, _, _, rfl⟩, ?_, fun h2 => absurd h2 (by omega), Nat.le_refl _, HI.out, ?_, fun h2 => absurd h2 (by omega)⟩
        · have : i = 0 := by omega
          subst this
          exact C2.cell rfl
        · have hl : (Au.new s q d k).ds.length = k := by simp [Au.new]
          refine ⟨_, _, by rw [tab_len, hl], fun i hi => ⟨gl, 0, rfl, L2.lt, ?_⟩⟩
          rw [tab_len, hl] at hi
          rw [Nat.zero_add, tab_at _ (by rw [hl]; exact hi)]
          have := L2.cell (hcur i hi)
          rw [tab_at _ hi] at this
          rw [this]
          unfold nowOf Au.new
          rw [dAt_rep]
        · intro g3 off3 n3 cp3 e3
          cases e3
          exact ⟨_, L2⟩
      clear XR X2 C1 L1 C2 L2 B1 XL hcur br
      go_wp2_with ((with_reducible refine st_row (ty := 30) (cs' := rfA (Au.new s q d k) 1 wr.heap.size 1) X1 (rf_info _ _ _ _) (rf_same _ _ _ _) (rf_one _ _ _ _) hW2 ?_ ?_ ?_); rfl; rfl)
      try simp only [Exit.inBlock, Exit.then]
      refine bodyPost_ret (by simp [results, Try.results5, go_sem, s0, s1, s2, s3, s4]; rfl) rfl ?_
      exact ⟨wr.heap.size, 1, _, rfl, HRf.out, B2⟩
end Go.Proofs.Yteinfckkpkbnlaa
