/- The document's answer: which fields a body may and must have. -/
import Derived.Test.YtbfipafhmbgnnaaRefF
namespace Go.Proofs.Ytbfipafhmbgnnaa
open Go.RowKit
set_option linter.unusedVariables false
set_option linter.unusedSimpArgs false

def nmB : ByteArray := ⟨#[86, 83, 67, 84, 68, 88, 76]⟩
/-- Does a byte stand among the first j of a text? -/
def hasB (t : ByteArray) (c : Nat) (j : Nat) : Bool := (t.data.toList.take j).any fun x => x.toNat == c

theorem hasB_succ (t : ByteArray) (c j : Nat) (h : j < t.size) : hasB t c (j + 1) = (hasB t c j || t[j].toNat == c) := by
  unfold hasB
  rw [List.take_succ_eq_append_getElem (by simpa using h), List.any_append]
  simp; rfl

def isL (b : Bd) : List Bool := [b.view != 0, b.seq != 0, b.client != 0, b.stamp != 0, !b.digest.toList.isEmpty, !b.text.toList.isEmpty, decide (0 < b.list.length)]
def okAt (b : Bd) (may must : ByteArray) (i : Nat) : Bool :=
  !((isL b)[i]! && !hasB may (nmB[i]!).toNat may.size) && !(!(isL b)[i]! && hasB must (nmB[i]!).toNat must.size)
def allowedB (b : Bd) (may must : ByteArray) : Bool := (List.range 7).all (okAt b may must)

theorem nm_0 (wx : World) : (Instr.index 9 (.string ⟨#[86, 83, 67, 84, 68, 88, 76]⟩) (.int .i64 0)).run Try.prog wx = .ok (.int .u8 86) wx := by kernel_rfl
theorem nm_1 (wx : World) : (Instr.index 9 (.string ⟨#[86, 83, 67, 84, 68, 88, 76]⟩) (.int .i64 1)).run Try.prog wx = .ok (.int .u8 83) wx := by kernel_rfl
theorem nm_2 (wx : World) : (Instr.index 9 (.string ⟨#[86, 83, 67, 84, 68, 88, 76]⟩) (.int .i64 2)).run Try.prog wx = .ok (.int .u8 67) wx := by kernel_rfl
theorem nm_3 (wx : World) : (Instr.index 9 (.string ⟨#[86, 83, 67, 84, 68, 88, 76]⟩) (.int .i64 3)).run Try.prog wx = .ok (.int .u8 84) wx := by kernel_rfl
theorem nm_4 (wx : World) : (Instr.index 9 (.string ⟨#[86, 83, 67, 84, 68, 88, 76]⟩) (.int .i64 4)).run Try.prog wx = .ok (.int .u8 68) wx := by kernel_rfl
theorem nm_5 (wx : World) : (Instr.index 9 (.string ⟨#[86, 83, 67, 84, 68, 88, 76]⟩) (.int .i64 5)).run Try.prog wx = .ok (.int .u8 88) wx := by kernel_rfl
theorem nm_6 (wx : World) : (Instr.index 9 (.string ⟨#[86, 83, 67, 84, 68, 88, 76]⟩) (.int .i64 6)).run Try.prog wx = .ok (.int .u8 76) wx := by kernel_rfl
theorem nm_idx (k : Nat) (hk : k < 7) (wx : World) : (Instr.index 9 (.string ⟨#[86, 83, 67, 84, 68, 88, 76]⟩) (.int .i64 (k : Int))).run Try.prog wx = .ok (.int .u8 ((nmB[k]!).toNat : Int)) wx := by
  have h7 : k = 0 ∨ k = 1 ∨ k = 2 ∨ k = 3 ∨ k = 4 ∨ k = 5 ∨ k = 6 := by omega
  rcases h7 with rfl | rfl | rfl | rfl | rfl | rfl | rfl
  · exact nm_0 wx
  · exact nm_1 wx
  · exact nm_2 wx
  · exact nm_3 wx
  · exact nm_4 wx
  · exact nm_5 wx
  · exact nm_6 wx

theorem beq_cast (a c : Nat) : ((a : Int) == (c : Int)) = (a == c) := by
  rw [Bool.eq_iff_iff]; simp; omega

set_option maxHeartbeats 4000000 in
theorem allowed_ref (b : Bd) (p : Option Addr) (c : Nat) (may must : ByteArray) (w : World) (h3 : b.list.length < 9223372036854775807) (hm1 : may.size ≤ 7) (hm2 : must.size ≤ 7) :
    Calls Try.prog 37 #[b.val (.slice p b.list.length c), .string may, .string must] w fun e w' => e = .returned (.bool (allowedB b may must)) ∧ Below w.heap.size w w' := by
  unfold Bd.val
  go_enter Try.func37, Try.ntmps37
  go_wp2
  have hnot : ∀ (x : Bool) (w : World), (Op.unary .not (.bool x)).run Try.prog w = .ok (.bool (!x)) w := fun _ _ => rfl
  have hcell : ∀ k, k < 7 → ((w.alloc (.cells #[.int .i64 b.kind, .int .i64 b.view, .int .i64 b.seq, .int .i64 b.client, .int .i64 b.stamp, .string b.digest, .string b.text, .slice p b.list.length c] 24)).alloc (.cells #[.bool (b.view != 0), .bool (b.seq != 0), .bool (b.client != 0), .bool (b.stamp != 0), .bool (!b.digest.toList.isEmpty), .bool (!b.text.toList.isEmpty), .bool (decide (0 < b.list.length))] 4)).cell? ⟨w.heap.size + 1, k, none⟩ = some (.bool ((isL b)[k]!)) := by
    intro k hk
    refine (blk_new _ _ _ _ (by simp)).cell ?_
    have h7 : k = 0 ∨ k = 1 ∨ k = 2 ∨ k = 3 ∨ k = 4 ∨ k = 5 ∨ k = 6 := by omega
    rcases h7 with rfl | rfl | rfl | rfl | rfl | rfl | rfl <;> rfl
  have hB0 : Below w.heap.size w ((w.alloc (.cells #[.int .i64 b.kind, .int .i64 b.view, .int .i64 b.seq, .int .i64 b.client, .int .i64 b.stamp, .string b.digest, .string b.text, .slice p b.list.length c] 24)).alloc (.cells #[.bool (b.view != 0), .bool (b.seq != 0), .bool (b.client != 0), .bool (b.stamp != 0), .bool (!b.digest.toList.isEmpty), .bool (!b.text.toList.isEmpty), .bool (decide (0 < b.list.length))] 4)) := by go_grown
  have hsz : w.heap.size + 1 < ((w.alloc (.cells #[.int .i64 b.kind, .int .i64 b.view, .int .i64 b.seq, .int .i64 b.client, .int .i64 b.stamp, .string b.digest, .string b.text, .slice p b.list.length c] 24)).alloc (.cells #[.bool (b.view != 0), .bool (b.seq != 0), .bool (b.client != 0), .bool (b.stamp != 0), .bool (!b.digest.toList.isEmpty), .bool (!b.text.toList.isEmpty), .bool (decide (0 < b.list.length))] 4)).heap.size := by simp
  go_loopw [9] (fun i wr => ∃ k : Nat, k ≤ 7 ∧ i = .int .i64 k ∧ Hid (allowedB b may must = (List.range' k (7 - k)).all (okAt b may must)) ∧ Below w.heap.size w wr ∧ Hid (∀ k, k < 7 → wr.cell? ⟨w.heap.size + 1, k, none⟩ = some (.bool ((isL b)[k]!)))) (fun i _ => 7 - (intOf i).toNat)
  case atStart => exact ⟨0, by omega, rfl, rfl, hB0, hcell⟩
  case round =>
    obtain ⟨k, hk, rfl, hR, hb, hcl⟩ := hrel
    clear hcell hB0 hsz
    by_cases hlt : k < 7
    · have hd : decide ((k : Int) < 7) = true := by simp only [decide_eq_true_eq]; omega
      have hck := hcl.out k hlt
      obtain ⟨C, hC⟩ : ∃ C, C = (nmB[k]!).toNat := ⟨_, rfl⟩
      have hC8 : C < 256 := by rw [hC]; exact (nmB[k]!).toNat_lt
      have hidx : ∀ wx : World, (Instr.index 9 (.string ⟨#[86, 83, 67, 84, 68, 88, 76]⟩) (.int .i64 (k : Int))).run Try.prog wx = .ok (.int .u8 (C : Int)) wx := by
        intro wx
        rw [hC]
        exact nm_idx k hlt wx
      have HC : Hid _ := hC
      clear hC hck
      go_wp2
      obtain ⟨wo, rfl⟩ : ∃ wo : World, wo = wr := ⟨_, rfl⟩
      go_loopw [10, 12] (fun q i wr => ∃ j : Nat, j ≤ may.size ∧ i = .int .i64 j ∧ q = .bool (hasB may C j) ∧ Below w.heap.size w wr ∧ Hid (∀ k, k < 7 → wr.cell? ⟨w.heap.size + 1, k, none⟩ = some (.bool ((isL b)[k]!)))) (fun _ i _ => may.size - (intOf i).toNat)
      case atStart => exact ⟨0, Nat.zero_le _, rfl, by simp [hasB], hb, hcl⟩
      case round =>
        obtain ⟨j, hj, rfl, rfl, hbj, hclj⟩ := hrel
        by_cases hjl : j < may.size
        · have hdj : decide ((j : Int) < may.size) = true := by simp only [decide_eq_true_eq]; omega
          have hsu := hasB_succ may C j hjl
          have HSU : Hid _ := hsu
          clear hsu
          cases hin : hasB may C j with
          | true =>
            have hfin : Hid (hasB may C (j + 1) = true) := by show _ = _; rw [HSU.out, hin]; rfl
            clear hin
            go_wp2
            go_region
            go_wp2
            go_roundw
            case rel => exact ⟨j + 1, by omega, by go_num, by rw [hfin.out], hbj.drew, hclj⟩
            case measure => simp [intOf]; omega
          | false =>
            have hfin : Hid (hasB may C (j + 1) = (may[j].toNat == C)) := by show _ = _; rw [HSU.out, hin]; simp
            clear hin
            go_wp2
            go_region
            go_wp2
            go_roundw
            case rel => exact ⟨j + 1, by omega, by go_num, by rw [hfin.out, beq_cast], hbj.drew, hclj⟩
            case measure => simp [intOf]; omega
        · have hdj : decide ((j : Int) < may.size) = false := by simp only [decide_eq_false_iff_not]; omega
          have hje : j = may.size := by omega
          subst hje
          clear hjl hj hdj
          go_wp2
          obtain ⟨wq, rfl⟩ : ∃ wq : World, wq = wr := ⟨_, rfl⟩
          go_loopw [11, 13] (fun q i wr => ∃ j : Nat, j ≤ must.size ∧ i = .int .i64 j ∧ q = .bool (hasB must C j) ∧ Below w.heap.size w wr ∧ Hid (∀ k, k < 7 → wr.cell? ⟨w.heap.size + 1, k, none⟩ = some (.bool ((isL b)[k]!)))) (fun _ i _ => must.size - (intOf i).toNat)
          case atStart => exact ⟨0, Nat.zero_le _, rfl, by simp [hasB], hbj, hclj⟩
          case round =>
            obtain ⟨j2, hj2, rfl, rfl, hbj2, hclj2⟩ := hrel
            by_cases hjl : j2 < must.size
            · have hdj : decide ((j2 : Int) < must.size) = true := by simp only [decide_eq_true_eq]; omega
              have hsu := hasB_succ must C j2 hjl
              have HSU : Hid _ := hsu
              clear hsu
              cases hin : hasB must C j2 with
              | true =>
                have hfin : Hid (hasB must C (j2 + 1) = true) := by show _ = _; rw [HSU.out, hin]; rfl
                clear hin
                go_wp2
                go_region
                go_wp2
                go_roundw
                case rel => exact ⟨j2 + 1, by omega, by go_num, by rw [hfin.out], hbj2.drew, hclj2⟩
                case measure => simp [intOf]; omega
              | false =>
                have hfin : Hid (hasB must C (j2 + 1) = (must[j2].toNat == C)) := by show _ = _; rw [HSU.out, hin]; simp
                clear hin
                go_wp2
                go_region
                go_wp2
                go_roundw
                case rel => exact ⟨j2 + 1, by omega, by go_num, by rw [hfin.out, beq_cast], hbj2.drew, hclj2⟩
                case measure => simp [intOf]; omega
            · have hdj : decide ((j2 : Int) < must.size) = false := by simp only [decide_eq_false_iff_not]; omega
              have hje : j2 = must.size := by omega
              subst hje
              clear hjl hj2 hdj
              have hck := hclj2.out k hlt
              have hok : Hid (okAt b may must k = (!((isL b)[k]! && !hasB may C may.size) && !(!(isL b)[k]! && hasB must C must.size))) := by
                show _ = _
                unfold okAt; rw [← HC.out]
              have hrg : Hid (allowedB b may must = (okAt b may must k && (List.range' (k + 1) (7 - (k + 1))).all (okAt b may must))) := by
                show _ = _
                rw [hR.out, show 7 - k = (7 - (k + 1)) + 1 by omega, List.range'_succ, List.all_cons]
              generalize hasB may C may.size = M at *
              generalize hasB must C must.size = Q at *
              generalize (isL b)[k]! = I at *
              cases I <;> cases M <;> cases Q
              all_goals
                go_wp2
                first
                  | (refine ⟨⟨k + 1, by omega, by go_num, ?_, hbj2, hclj2⟩, by simp [intOf]; omega⟩; show _ = _; rw [hrg.out, hok.out]; rfl)
                  | (go_ret; exact ⟨by rw [hrg.out, hok.out]; rfl, hbj2⟩)
    · have hd : decide ((k : Int) < 7) = false := by simp only [decide_eq_false_iff_not]; omega
      have hfin : Hid (allowedB b may must = true) := by
        show _ = _
        rw [hR.out, show 7 - k = 0 by omega]; rfl
      go_wp2
      go_ret
      exact ⟨by rw [hfin.out]; rfl, hb⟩
end Go.Proofs.Ytbfipafhmbgnnaa
