/- Where a key stands in a tree: the program's answer. -/
import Derived.Test.YtlnlagmobgkblaaGreatMk6
namespace Go.Proofs.YtlnlagmobgkblaaGreat
open Go.RowKit
set_option linter.unusedSimpArgs false
set_option linter.unusedVariables false
variable {p b x y : Nat} {T : List ByteArray} {S : List (Int × ByteArray)}

set_option maxHeartbeats 4000000 in
set_option maxRecDepth 100000 in
theorem closure_calls (i k q1 q2 g off cap n : Nat) (rk key : ByteArray) (w : World) (hin : i < n) (c1 : w.cell? ⟨q1, 0, none⟩ = some (.pointer (some ⟨k, 0, none⟩))) (c2 : w.cell? ⟨q2, 0, none⟩ = some (.string key)) (c3 : w.cell? ⟨k, 1, none⟩ = some (.slice (some ⟨g, off, none⟩) n cap)) (c4 : w.cell? ⟨g, off + i * 2, none⟩ = some (.string rk)) :
    Calls Tryz.prog 45 #[.int .i64 i, .pointer (some ⟨q1, 0, none⟩), .pointer (some ⟨q2, 0, none⟩)] w fun e w' => e = .returned (.bool (!lsB rk key)) ∧ Below w.heap.size w w' := by
  have hd : Below w.heap.size w w.drew := (Below.refl _ _).drew
  have hin' : (i : Int) < (n : Int) := by omega
  have hfl := lsB_flip key rk
  go_enter Tryz.func45, Tryz.ntmps45
  go_wp2_with fail
  go_region
  go_wp2
  go_ret
  exact ⟨rfl, hd⟩
set_option maxHeartbeats 4000000 in
set_option maxRecDepth 100000 in
theorem search_calls (n : Nat) (q : Nat → Bool) (u1 u2 : Value) (w : World) (hn : n ≤ 4096) (hm : ∀ a c, a ≤ c → c < n → q a = true → q c = true)
    (hf : ∀ i wx, i < n → Below w.heap.size w wx → Calls Tryz.prog 45 #[.int .i64 (i : Nat), u1, u2] wx fun e w' => e = .returned (.bool (q i)) ∧ Below wx.heap.size wx w') :
    Calls Tryz.prog 44 #[.int .i64 n, .func (.func 45) #[] #[u1, u2]] w fun e w' => ∃ r : Nat, e = .returned (.int .i64 r) ∧ r ≤ n ∧ (∀ a, a < r → q a = false) ∧ (∀ a, r ≤ a → a < n → q a = true) ∧ Below w.heap.size w w' := by
  have HF : Hid _ := hf
  have HM : Hid _ := hm
  clear hf hm
  go_enter Tryz.func44, Tryz.ntmps44
  go_wp2_with fail
  go_loopw [5, 6] (fun i j wr => ∃ a c : Nat, i = .int .i64 a ∧ j = .int .i64 c ∧ a ≤ c ∧ c ≤ n ∧ (∀ z, z < a → q z = false) ∧ (∀ z, c ≤ z → z < n → q z = true) ∧ Below w.heap.size w wr) (fun i j _ => (intOf j - intOf i).toNat)
  case atStart => exact ⟨0, n, rfl, rfl, Nat.zero_le _, Nat.le_refl _, fun z hz => by omega, fun z h1 h2 => by omega, Below.refl _ _⟩
  case round =>
    obtain ⟨a, c, rfl, rfl, hac, hcn, hlo, hhi, hb⟩ := hrel
    by_cases hlt : a < c
    · have hd : decide ((a : Int) < (c : Int)) = true := by simp only [decide_eq_true_eq]; omega
      have hmid : ((a : Int) + (c : Int)) / 2 = (((a + c) / 2 : Nat) : Int) := by omega
      obtain ⟨m, hmm⟩ : ∃ m, (a + c) / 2 = m := ⟨_, rfl⟩
      have hma : a ≤ m := by omega
      have hmc : m < c := by omega
      rw [hmm] at hmid
      have HC : Hid _ := HF.out m wr (by omega) hb
      cases hq : q m
      · rw [hq] at HC
        go_wp2_with fail
        refine Calls.mono HC.out ?_
        rintro e w2 ⟨rfl, b2⟩
        go_wp2
        refine ⟨⟨m + 1, c, by norm_cast, rfl, by omega, hcn, fun z hz => ?_, hhi, hb.trans (b2.mono hb.size)⟩, ?_⟩
        · cases hz2 : q z
          · rfl
          · rw [HM.out z m (by omega) (by omega) hz2] at hq; cases hq
        · simp [intOf]; omega
      · rw [hq] at HC
        go_wp2_with fail
        refine Calls.mono HC.out ?_
        rintro e w2 ⟨rfl, b2⟩
        go_wp2
        refine ⟨⟨a, m, rfl, rfl, by omega, by omega, hlo, fun z h1 h2 => HM.out m z h1 h2 hq, hb.trans (b2.mono hb.size)⟩, ?_⟩
        simp [intOf]; omega
    · have hd : decide ((a : Int) < (c : Int)) = false := by simp only [decide_eq_false_iff_not]; omega
      obtain rfl : a = c := by omega
      go_wp2
      go_ret
      exact ⟨a, rfl, hcn, hlo, hhi, hb⟩
end Go.Proofs.YtlnlagmobgkblaaGreat
