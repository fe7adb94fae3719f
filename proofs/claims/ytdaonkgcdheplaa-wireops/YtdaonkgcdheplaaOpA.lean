/- Requests: their numbers and prices as bytes. -/
import Derived.Test.YtdaonkgcdheplaaRcL
import Derived.Test.YtdaonkgcdheplaaAwake
namespace Go.Proofs.Ytdaonkgcdheplaa
open Go.RowKit
set_option linter.unusedVariables false
set_option linter.unusedSimpArgs false

def leB (x i : Nat) : UInt8 := UInt8.ofNat (x / 256 ^ i % 256)
def leN (x k : Nat) : List UInt8 := (List.range k).map (leB x)
def le8 (x : Nat) : List UInt8 := leN x 8

theorem leN_succ (x k : Nat) : leN x (k + 1) = leN x k ++ [leB x k] := by simp [leN, List.range_succ]
theorem leB_nat (x i : Nat) : (leB x i).toNat = x / 256 ^ i % 256 := by simp [leB, UInt8.toNat_ofNat']

theorem pow256 (k : Nat) : (256 : Nat) ^ k = 2 ^ (8 * k) := by rw [Nat.pow_mul]
theorem leI (x k : Nat) : (x : Int) / 2 ^ (8 * k) % 256 = (x : Int) / 256 ^ k % 256 := by
  have e : (256 : Int) ^ k = 2 ^ (8 * k) := by rw [Int.pow_mul]; rfl
  rw [e]

theorem run_f64bits (b : Nat) (w : World) : (callFunc 48 #[.float .f64 b]).run Try.prog w = .ok (.value (.int .u64 b)) w := by kernel_rfl
theorem run_f64from (n : Nat) (w : World) : (callFunc 51 #[.int .u64 n]).run Try.prog w = .ok (.value (.float .f64 n)) w := by kernel_rfl

set_option maxRecDepth 100000 in
set_option maxHeartbeats 1000000 in
theorem layPrice_calls (base : Nat) (v : Value) (len : Nat) (xs : List Value) (pr : Nat) (w : World) (hp : pr < 18446744073709551616)
    (hown : w.ownsRow base 5 1 v len xs) (hlen : len ≤ 1000000000000) (hbase : base ≤ w.heap.size) :
    Calls Try.prog 47 #[v, .float .f64 pr] w fun e w' => ∃ v', e = .returned v' ∧ w'.ownsRow base 5 1 v' (len + 8) (xs ++ Lib.byteCells (le8 pr)) ∧ Below base w w' ∧ Kp w w' := by
  obtain ⟨i0, hi, hz0, hz1, hz2⟩ := info_parts infoByte
  have hfb := run_f64bits pr
  go_enter Try.func47, Try.ntmps47
  go_wp2
  go_loopw [0, 9] (fun o i wr => ∃ k : Nat, k ≤ 8 ∧ i = .int .i64 k ∧ wr.ownsRow base 5 1 o (len + k) (xs ++ Lib.byteCells (leN pr k)) ∧ Below base w wr ∧ Kp w wr) (fun _ i _ => 8 - (intOf i).toNat)
  case atStart => exact ⟨0, Nat.zero_le _, rfl, by simpa [leN, Lib.byteCells] using hown, Below.refl _ _, Kp.refl _⟩
  case round =>
    obtain ⟨k, hk, rfl, ho, hb, hkp⟩ := hrel
    have hz := hb.size
    by_cases hlt : k < 8
    · have hd : decide ((k : Int) < 8) = true := by simp only [decide_eq_true_eq]; omega
      have hle := leI pr k
      go_wp2_with (at_builtin; refine wpList_append_own _ rfl (.tmp 12) (.tmp 18) 48 rfl base 5 i0 (.int .u8 0) 1 1 Try.underlying48 hi hz0 hz1 hz2 rfl (by decide) _ _ _ rfl (ho.alloc _) ⟨wr.heap.size, 0, none⟩ 1 1 [.int .u8 ((pr : Int) / 256 ^ k % 256)] rfl rfl ?c1 ?c2 ?c3 ?c4 ?c5 ?_)
      case c1 => exact cell_one_new _ _ _
      case c2 => intro u hu; simp at hu; subst hu; rfl
      case c3 => unfold maxLen; omega
      case c4 => omega
      case c5 => simp; omega
      intro v' w1 hown' hgrow _
      clear hle
      go_wp2
      refine ⟨⟨k + 1, by omega, by go_num, ?_, ?_, (hkp.trans (Kp.of_below ((Below.refl _ _).alloc (Nat.le_refl _) _))).trans (Kp.of_grown hgrow (ho.alloc _))⟩, by simp [intOf]; omega⟩
      · rw [leN_succ, byteCells_snoc _ _ (leB_nat pr k)]
        simpa [Nat.add_assoc] using hown'
      · exact (hb.alloc (by omega) _).grown hgrow (by simp; omega) (fun k hk => (ho.lt k hk).1)
    · have hd : decide ((k : Int) < 8) = false := by simp only [decide_eq_false_iff_not]; omega
      have e8 : k = 8 := by omega
      subst e8
      go_wp2
      go_ret
      exact ⟨_, rfl, ho, hb, hkp⟩
end Go.Proofs.Ytdaonkgcdheplaa
