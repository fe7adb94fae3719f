/- Best: the lowest and the highest of those that are numbers. -/
import Derived.Test.YtoblekdjncikaaaFl3
namespace Go.Proofs.Ytoblekdjncikaaa
open Go.RowKit
set_option linter.unusedSimpArgs false
set_option linter.unusedVariables false

theorem bestTurned_calls (a b : Nat) (w : World) (ha : a < 18446744073709551616) (hb : b < 18446744073709551616) : Calls Try.prog 29 #[.float .f64 a, .float .f64 b] w fun e w' => e = .returned (.bool (lessR b a)) ∧ w' = w := by
  go_enter Try.func29, Try.ntmps29
  go_wp2_with fail
  refine (less_calls b a _ hb ha).mono ?_
  rintro e w1 ⟨rfl, rfl⟩
  go_wp2
  go_ret
  exact ⟨rfl, rfl⟩
def bestStep (high : Bool) (acc : Nat × Bool) (x : Nat) : Nat × Bool := if !fnan x && (!acc.2 || (if high then lessR acc.1 x else lessR x acc.1)) then (x, true) else acc
def bestR (high : Bool) (l : List Nat) : Nat × Bool := l.foldl (bestStep high) (0, false)
theorem bestR_lt (high : Bool) (l : List Nat) (h : ∀ x ∈ l, x < 18446744073709551616) : (bestR high l).1 < 18446744073709551616 := by
  unfold bestR
  have : ∀ (l : List Nat) (acc : Nat × Bool), (∀ x ∈ l, x < 18446744073709551616) → acc.1 < 18446744073709551616 → (l.foldl (bestStep high) acc).1 < 18446744073709551616 := by
    intro l
    induction l with
    | nil => intro acc _ h; exact h
    | cons a l ih =>
      intro acc hl hacc
      refine ih _ (fun x hx => hl x (List.mem_cons_of_mem _ hx)) ?_
      unfold bestStep
      generalize (!fnan a && (!acc.2 || (if high then lessR acc.1 a else lessR a acc.1))) = c
      cases c
      · exact hacc
      · exact hl a (List.mem_cons_self ..)
  exact this l _ h (by decide)
theorem bestR_succ (high : Bool) (l : List Nat) (k : Nat) (hk : k < l.length) : bestR high (l.take (k + 1)) = bestStep high (bestR high (l.take k)) l[k] := by
  unfold bestR
  rw [List.take_succ_eq_append_getElem hk, List.foldl_append]; rfl

set_option maxHeartbeats 1000000 in
set_option maxRecDepth 100000 in
theorem best_calls (lv : Value) (l : List Nat) (high : Bool) (w : World) (hl : Fls w lv l) (hz : l.length ≤ 1000) :
    Calls Try.prog 13 #[lv, .bool high] w fun e w' => e = .returned (.tuple #[.float .f64 (bestR high l).1, .bool (bestR high l).2]) ∧ Below w.heap.size w w' := by
  have hnot : ∀ (x : Bool) (w : World), (Op.unary .not (.bool x)).run Try.prog w = .ok (.bool (!x)) w := fun _ _ => rfl
  have HB : Hid _ := fls_bound hl
  obtain ⟨a, c, rfl, hc⟩ := hl.any
  have HC : Hid _ := hc
  clear hl hc
  generalize hA : bestR high l = A at *
  have HA : Hid _ := hA
  clear hA
  cases high
  · go_enter Try.func13, Try.ntmps13
    go_wp2_with fail
    go_loopw [7, 8, 14] (fun b h i wr => ∃ k : Nat, k ≤ l.length ∧ i = .int .i64 k ∧ b = .float .f64 (bestR false (l.take k)).1 ∧ h = .bool (bestR false (l.take k)).2 ∧ Below w.heap.size w wr) (fun _ _ i _ => l.length - (intOf i).toNat)
    case atStart => exact ⟨0, Nat.zero_le _, rfl, rfl, rfl, Below.refl _ _⟩
    case round =>
      obtain ⟨k, hk, rfl, rfl, rfl, hb⟩ := hrel
      by_cases hlt : k < l.length
      · have hd : decide ((k : Int) < (l.length : Int)) = true := by simp only [decide_eq_true_eq]; omega
        obtain ⟨g, o, rfl, hlc, hg, hcc, hbx⟩ := HC.out k hlt
        have c1 : wr.cell? ⟨g, o + k, none⟩ = some (.float .f64 l[k]) := (hb.cell (p := ⟨g, o + k, none⟩) hg).trans (by simpa using hcc 0 _ rfl)
        have HS : Hid _ := bestR_succ false l k hlt
        have hbb := bestR_lt false (l.take k) (fun x hx => HB.out x (List.mem_of_mem_take hx))
        have HL := fun wx => less_calls l[k] (bestR false (l.take k)).1 wx hbx hbb
        generalize l[k] = x at *
        generalize bestR false (l.take k) = acc at *
        obtain ⟨best, has⟩ := acc
        simp only at *
        have HLs : Hid _ := HL
        clear hcc HL
        unfold bestStep at HS
        simp only [Bool.false_eq_true, if_false] at HS
        go_wp2_with fail
        refine (isNaN_calls x _).mono ?_
        rintro e w1 ⟨rfl, rfl⟩
        cases hn : fnan x
        · rw [hn] at HS
          cases hhas : has
          · subst hhas
            go_wp2_with fail
            exact ⟨⟨k + 1, by omega, by go_num, by rw [HS.out]; rfl, by rw [HS.out]; rfl, by assumption⟩, by simp [intOf]; omega⟩
          · subst hhas
            go_wp2_with fail
            refine (HLs.out _).mono ?_
            rintro e w2 ⟨rfl, rfl⟩
            cases hls : lessR x best
            · rw [hls] at HS
              go_wp2_with fail
              exact ⟨⟨k + 1, by omega, by go_num, by rw [HS.out]; rfl, by rw [HS.out]; rfl, by assumption⟩, by simp [intOf]; omega⟩
            · rw [hls] at HS
              go_wp2_with fail
              exact ⟨⟨k + 1, by omega, by go_num, by rw [HS.out]; rfl, by rw [HS.out]; rfl, by assumption⟩, by simp [intOf]; omega⟩
        · rw [hn] at HS
          go_wp2_with fail
          exact ⟨⟨k + 1, by omega, by go_num, by rw [HS.out]; rfl, by rw [HS.out]; rfl, by assumption⟩, by simp [intOf]; omega⟩
      · have hd : decide ((k : Int) < (l.length : Int)) = false := by simp only [decide_eq_false_iff_not]; omega
        obtain rfl : k = l.length := by omega
        have HT : Hid _ := List.take_length (l := l)
        go_wp2
        go_ret2
        exact ⟨by rw [← HA.out, HT.out]; rfl, hb⟩
  · go_enter Try.func13, Try.ntmps13
    go_wp2_with fail
    go_loopw [7, 8, 14] (fun b h i wr => ∃ k : Nat, k ≤ l.length ∧ i = .int .i64 k ∧ b = .float .f64 (bestR true (l.take k)).1 ∧ h = .bool (bestR true (l.take k)).2 ∧ Below w.heap.size w wr) (fun _ _ i _ => l.length - (intOf i).toNat)
    case atStart => exact ⟨0, Nat.zero_le _, rfl, rfl, rfl, Below.refl _ _⟩
    case round =>
      obtain ⟨k, hk, rfl, rfl, rfl, hb⟩ := hrel
      by_cases hlt : k < l.length
      · have hd : decide ((k : Int) < (l.length : Int)) = true := by simp only [decide_eq_true_eq]; omega
        obtain ⟨g, o, rfl, hlc, hg, hcc, hbx⟩ := HC.out k hlt
        have c1 : wr.cell? ⟨g, o + k, none⟩ = some (.float .f64 l[k]) := (hb.cell (p := ⟨g, o + k, none⟩) hg).trans (by simpa using hcc 0 _ rfl)
        have HS : Hid _ := bestR_succ true l k hlt
        have hbb := bestR_lt true (l.take k) (fun x hx => HB.out x (List.mem_of_mem_take hx))
        have HL := fun wx => bestTurned_calls l[k] (bestR true (l.take k)).1 wx hbx hbb
        generalize l[k] = x at *
        generalize bestR true (l.take k) = acc at *
        obtain ⟨best, has⟩ := acc
        simp only at *
        have HLs : Hid _ := HL
        clear hcc HL
        unfold bestStep at HS
        simp only [if_true] at HS
        go_wp2_with fail
        refine (isNaN_calls x _).mono ?_
        rintro e w1 ⟨rfl, rfl⟩
        cases hn : fnan x
        · rw [hn] at HS
          cases hhas : has
          · subst hhas
            go_wp2_with fail
            exact ⟨⟨k + 1, by omega, by go_num, by rw [HS.out]; rfl, by rw [HS.out]; rfl, by assumption⟩, by simp [intOf]; omega⟩
          · subst hhas
            go_wp2_with fail
            refine (HLs.out _).mono ?_
            rintro e w2 ⟨rfl, rfl⟩
            cases hls : lessR best x
            · rw [hls] at HS
              go_wp2_with fail
              exact ⟨⟨k + 1, by omega, by go_num, by rw [HS.out]; rfl, by rw [HS.out]; rfl, by assumption⟩, by simp [intOf]; omega⟩
            · rw [hls] at HS
              go_wp2_with fail
              exact ⟨⟨k + 1, by omega, by go_num, by rw [HS.out]; rfl, by rw [HS.out]; rfl, by assumption⟩, by simp [intOf]; omega⟩
        · rw [hn] at HS
          go_wp2_with fail
          exact ⟨⟨k + 1, by omega, by go_num, by rw [HS.out]; rfl, by rw [HS.out]; rfl, by assumption⟩, by simp [intOf]; omega⟩
      · have hd : decide ((k : Int) < (l.length : Int)) = false := by simp only [decide_eq_false_iff_not]; omega
        obtain rfl : k = l.length := by omega
        have HT : Hid _ := List.take_length (l := l)
        go_wp2
        go_ret2
        exact ⟨by rw [← HA.out, HT.out]; rfl, hb⟩
end Go.Proofs.Ytoblekdjncikaaa
