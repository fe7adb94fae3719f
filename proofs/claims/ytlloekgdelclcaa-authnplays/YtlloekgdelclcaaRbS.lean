/- The document's At, Sign and Check. -/
import Derived.Test.YtlloekgdelclcaaRbD
namespace Go.Proofs.Ytlloekgdelclcaa
open Go.RowKit
set_option linter.unusedSimpArgs false
set_option linter.unusedVariables false
variable {p b x y base r : Nat} {tv sv : Value} {T : List ByteArray} {S : List (Int × ByteArray)}

def atR (S : List (Int × ByteArray)) (who : Int) (s : ByteArray) : Int := match seek (who, s) S 0 with | some k => (k : Int) | none => -1
theorem own_len3 {w : World} {e : TypeId} {z n : Nat} {v : Value} {xs : List Value} (h : w.ownsRow base e z v n xs) : ∃ p c, v = .slice p n c := by
  rcases h.2 with ⟨rfl, h3⟩ | ⟨g, cap, cur, hv, _⟩
  · exact ⟨none, 0, by rw [h3]⟩
  · exact ⟨_, _, hv⟩

set_option maxHeartbeats 2000000 in
set_option maxRecDepth 100000 in
theorem refAt_calls (who : Int) (s : ByteArray) (w : World) (h : RB w base r tv sv T S) (hS : S.length < 1000000) :
    Calls Try.prog 13 #[.pointer (some ⟨r, 0, none⟩), .int .i64 who, .string s] w fun e w' => e = .returned (.int .i64 (atR S who s)) ∧ w' = w := by
  have HR : Hid _ := h
  obtain ⟨tp, tc, hsv⟩ := own_len3 h.signed
  subst hsv
  have c0 : w.cell? ⟨r, 1, none⟩ = some (.slice tp S.length tc) := h.blk.cell rfl
  clear h
  generalize hA : atR S who s = A at *
  have HA : Hid _ := hA
  clear hA
  unfold atR at HA
  go_enter Try.func13, Try.ntmps13
  go_wp2_with fail
  go_loopw [7] (fun i wr => ∃ k : Nat, k ≤ S.length ∧ i = .int .i64 k ∧ wr = w ∧ Hid (∀ j (h : j < S.length), j < k → S[j] ≠ (who, s))) (fun i _ => S.length - (intOf i).toNat)
  case atStart => exact ⟨0, Nat.zero_le _, rfl, rfl, fun j _ hj => absurd hj (Nat.not_lt_zero _)⟩
  case round =>
    obtain ⟨k, hk, rfl, rfl, HN⟩ := hrel
    by_cases hlt : k < S.length
    · have hd : decide ((k : Int) < (S.length : Int)) = true := by simp only [decide_eq_true_eq]; omega
      obtain ⟨g, cap, hv, hcap, hgl, hcc⟩ := own_cell3 HR.out.signed (by omega)
      simp only [Value.slice.injEq] at hv
      obtain ⟨rfl, -, rfl⟩ := hv
      have c1 := hcc (k * 2) _ (wdC_at S k hlt).1
      have c2 := hcc (k * 2 + 1) _ (wdC_at S k hlt).2
      have hsE := eqS S[k].2 s
      have HTk : Hid _ := fun (e : S[k] = (who, s)) => seek_first (who, s) S 0 k HN.out hlt e
      have HNk : Hid _ := fun (e : ¬ S[k] = (who, s)) => (show ∀ j (h : j < S.length), j < k + 1 → S[j] ≠ (who, s) from fun j hj hjk => by
        by_cases e2 : j = k
        · subst e2; exact e
        · exact HN.out j hj (by omega))
      clear hcc
      generalize S[k] = t at *
      obtain ⟨tw, tt⟩ := t
      simp only at c1 c2 hsE
      by_cases h1 : tw = who
      · subst h1
        by_cases h2 : tt = s
        · subst h2
          have hmem := HTk.out rfl
          rw [hmem] at HA
          clear hsE hmem
          go_wp2_with fail
          go_ret
          exact ⟨by rw [← HA.out]; simp, rfl⟩
        · rw [decide_eq_false h2] at hsE
          have hne : ¬ tt.toList = s.toList := by simpa using hsE
          go_wp2_with fail
          exact ⟨⟨k + 1, by omega, by go_num, by trivial, HNk.out (fun e => h2 (by injection e))⟩, by simp [intOf]; omega⟩
      · have hb1 : (tw == who) = false := by rw [beq_eq_false_iff_ne]; exact h1
        have hb2 : decide (tw = who) = false := decide_eq_false h1
        clear hsE
        go_wp2_with fail
        exact ⟨⟨k + 1, by omega, by go_num, by trivial, HNk.out (fun e => h1 (by injection e))⟩, by simp [intOf]; omega⟩
    · have hd : decide ((k : Int) < (S.length : Int)) = false := by simp only [decide_eq_false_iff_not]; omega
      obtain rfl : k = S.length := by omega
      have hnin : (who, s) ∉ S := seek_never (who, s) S (fun j hj => (HN.out : ∀ j (h : j < S.length), j < S.length → S[j] ≠ (who, s)) j hj hj)
      rw [seek_none _ S 0 hnin] at HA
      clear hnin
      go_wp2_with fail
      go_ret
      exact ⟨by rw [← HA.out]; rfl, rfl⟩
end Go.Proofs.Ytlloekgdelclcaa
