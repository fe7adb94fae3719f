/- QuoteVwaps for every prices and volumes: what it answers. -/
import Derived.Test.YtoblekdjncikaaaQtVw
import Derived.Test.YtoblekdjncikaaaFl3
namespace Go.Proofs.Ytoblekdjncikaaa
open Go.RowKit
set_option linter.unusedSimpArgs false
set_option linter.unusedVariables false

set_option maxHeartbeats 1000000 in
set_option maxRecDepth 100000 in
theorem quoteVwaps_calls (pv vv : Value) (ps vs : List Nat) (w : World) (hp : Fls w pv ps) (hv : Fls w vv vs) (hz : ps.length * 8 ≤ 140737488351232) (hz2 : vs.length * 8 ≤ 140737488351232) :
    Calls Try.prog 3 #[pv, vv] w fun e w' => e = .returned (.bool true) ∧ Below w.heap.size w w' := by
  have hnot : ∀ (x : Bool) (w : World), (Op.unary .not (.bool x)).run Try.prog w = .ok (.bool (!x)) w := fun _ _ => rfl
  have hpv : ∃ a c, pv = .slice a ps.length c := by obtain ⟨a, c, h, _⟩ := hp.any; exact ⟨a, c, h⟩
  have hvv : ∃ a c, vv = .slice a vs.length c := by obtain ⟨a, c, h, _⟩ := hv.any; exact ⟨a, c, h⟩
  by_cases h1 : 1000 < ps.length
  · obtain ⟨pa, pc, rfl⟩ := hpv
    obtain ⟨va, vc, rfl⟩ := hvv
    have hd : decide (1000 < (ps.length : Int)) = true := by simp only [decide_eq_true_eq]; omega
    clear hp hv
    go_enter Try.func3, Try.ntmps3
    go_wp2_with fail
    refine (awake_calls _).mono ?_
    rintro e w1 ⟨rfl, rfl⟩
    go_wp2
    go_ret
    exact ⟨rfl, Below.refl _ _⟩
  have hd : decide (1000 < (ps.length : Int)) = false := by simp only [decide_eq_false_iff_not]; omega
  by_cases h2 : 1000 < vs.length
  · obtain ⟨pa, pc, rfl⟩ := hpv
    obtain ⟨va, vc, rfl⟩ := hvv
    have hd : decide (1000 < (vs.length : Int)) = true := by simp only [decide_eq_true_eq]; omega
    clear hp hv
    go_enter Try.func3, Try.ntmps3
    go_wp2_with fail
    refine (awake_calls _).mono ?_
    rintro e w1 ⟨rfl, rfl⟩
    go_wp2
    go_ret
    exact ⟨rfl, Below.refl _ _⟩
  have hd2 : decide (1000 < (vs.length : Int)) = false := by simp only [decide_eq_false_iff_not]; omega
  clear hpv
  obtain ⟨va, vc, hvv⟩ := hvv
  subst hvv
  obtain ⟨i0, hi, hz0, hz1, hz3⟩ := info_parts infoFl
  have HV : Hid _ := hv
  have HB : Hid _ := fls_bound hp
  have HP : Hid _ := hp
  clear hv
  rcases hp with ⟨⟨pz, cz, rfl⟩, rfl⟩ | ⟨b, off, cap, rfl, hb, hcap, hc⟩
  · have H1 : Hid _ := fun wx hw => vwap_calls (.slice none 0 0) (.slice va vs.length vc) [] vs wx (Or.inl ⟨⟨_, _, rfl⟩, rfl⟩) hw (by simp) (by omega)
    have H2 : Hid _ := fun wx hw => refVwap_calls (.slice pz 0 cz) (.slice va vs.length vc) [] vs wx (Or.inl ⟨⟨_, _, rfl⟩, rfl⟩) hw (by simp) (by omega)
    generalize vwR [] vs = R at *
    obtain ⟨x, er⟩ := R
    clear HP HB hz
    simp only [List.length_nil] at *
    go_enter Try.func3, Try.ntmps3
    go_wp2_with (at_builtin; refine wpList_append_givenF _ rfl (.tmp 20) (.tmp 21) 22 rfl _ _ rfl rfl (append_emptyF pz cz _) ?_)
    go_wp2_with fail
    refine (H1.out _ HV.out).mono ?_
    rintro e w1 ⟨rfl, b1⟩
    go_wp2_with fail
    refine (H2.out _ (Elems.below HV.out b1)).mono ?_
    rintro e w2 ⟨rfl, b2⟩
    go_wp2_with fail
    refine wp_loop_rounds 1 ?_
    rw [rounds_succ]
    go_wp2_with fail
    refine (alike_calls x x _).mono ?_
    rintro e w3 ⟨rfl, rfl⟩
    go_wp2_with fail
    refine (awake_calls _).mono ?_
    rintro e w4 ⟨rfl, rfl⟩
    go_wp2
    go_ret
    exact ⟨rfl, b1.trans (b2.mono b1.size)⟩
  · have HC : Hid _ := hc
    have H2 : Hid _ := fun wx hp hw => refVwap_calls (.slice (some ⟨b, off, none⟩) ps.length cap) (.slice va vs.length vc) ps vs wx hp hw (by omega) (by omega)
    have H1 : Hid _ := fun vx wx hp hw => vwap_calls vx (.slice va vs.length vc) ps vs wx hp hw (by omega) (by omega)
    generalize vwR ps vs = R at *
    obtain ⟨x, er⟩ := R
    clear hc
    go_enter Try.func3, Try.ntmps3
    go_wp2_with (at_builtin; refine wpList_append_own _ rfl (.tmp 20) (.tmp 21) 22 rfl w.heap.size 24 i0 (.float .f64 0) 1 8 Try.underlying22 hi hz0 hz1 hz3 rfl (by decide) (.slice none 0 0) 0 [] rfl (World.ownsRow_nil _ _ _ _) ⟨b, off, none⟩ ps.length cap (flC ps) rfl (flC_len ps) ?c1 ?c2 ?c3 ?c4 ?c5 ?_)
    case c1 => exact fls_cells HC.out
    case c2 => intro u hu; obtain ⟨z, rfl⟩ := flC_float hu; rfl
    case c3 => unfold maxLen; omega
    case c4 => omega
    intro v' w1 hown' hgrow _
    have b1 : Below w.heap.size w w1 := below_grownF (Below.refl _ _) hgrow (fun k hk => by cases hk) (Nat.le_refl _)
    have hf1 := fls_of_own hown' HB.out
    obtain ⟨a', c', hv', hcc⟩ := hf1.any
    subst hv'
    have HF : Hid _ := hf1
    have HCC : Hid _ := hcc
    clear hf1 hcc hown' hgrow
    go_wp2_with fail
    refine (H1.out _ _ HF.out (Elems.below HV.out b1)).mono ?_
    rintro e w2 ⟨rfl, b2⟩
    have b12 := b1.trans (b2.mono b1.size)
    go_wp2_with fail
    refine (H2.out _ (Elems.below HP.out b12) (Elems.below HV.out b12)).mono ?_
    rintro e w3 ⟨rfl, b3⟩
    have b13 := b12.trans (b3.mono b12.size)
    have b23 := b2.trans (b3.mono b2.size)
    go_wp2_with fail
    go_loopw [10] (fun i wr => ∃ k : Nat, k ≤ ps.length ∧ i = .int .i64 k ∧ Below w3.heap.size w3 wr) (fun i _ => ps.length - (intOf i).toNat)
    case atStart => exact ⟨0, Nat.zero_le _, rfl, Below.refl _ _⟩
    case round =>
      obtain ⟨k, hk, rfl, hb4⟩ := hrel
      by_cases hlt : k < ps.length
      · have hd : decide ((k : Int) < (ps.length : Int)) = true := by simp only [decide_eq_true_eq]; omega
        obtain ⟨g1, o1, rfl, hl1, hg1, hc1, hq1⟩ := HCC.out k hlt
        have hc2 := (HC.out k hlt).1
        have c1 : wr.cell? ⟨g1, o1 + k, none⟩ = some (.float .f64 ps[k]) := by
          have e0 := hc1 0 _ rfl
          rw [Nat.mul_one, Nat.add_zero] at e0
          have e1 := (b23.cell (p := ⟨g1, o1 + k, none⟩) hg1).trans e0
          exact (hb4.cell (p := ⟨g1, o1 + k, none⟩) (Nat.lt_of_lt_of_le hg1 b23.size)).trans e1
        have c2 : wr.cell? ⟨b, off + k, none⟩ = some (.float .f64 ps[k]) := by
          have e0 := hc2 0 _ rfl
          rw [Nat.mul_one, Nat.add_zero] at e0
          have e1 := (b13.cell (p := ⟨b, off + k, none⟩) hb).trans e0
          exact (hb4.cell (p := ⟨b, off + k, none⟩) (Nat.lt_of_lt_of_le hb b13.size)).trans e1
        generalize ps[k] = q at *
        clear hc1 hc2
        have ha := fun wx => alike_calls q q wx
        rw [show decide (q = q) = true from decide_eq_true rfl] at ha
        have HAl : Hid _ := ha
        clear ha
        go_wp2_with fail
        go_region_with (go_at_call 10; refine (HAl.out _).mono ?_; rintro e w5 ⟨rfl, rfl⟩)
        all_goals
          go_wp2_with fail
          exact ⟨⟨k + 1, by omega, by go_num, hb4.drew⟩, by simp [intOf]; omega⟩
      · have hd : decide ((k : Int) < (ps.length : Int)) = false := by simp only [decide_eq_false_iff_not]; omega
        go_wp2_with fail
        refine (alike_calls x x _).mono ?_
        rintro e w5 ⟨rfl, rfl⟩
        go_wp2_with fail
        refine (awake_calls _).mono ?_
        rintro e w6 ⟨rfl, rfl⟩
        go_wp2
        go_ret
        exact ⟨rfl, b13.trans (hb4.mono b13.size)⟩
end Go.Proofs.Ytoblekdjncikaaa
