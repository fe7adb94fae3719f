/- The document's answer for messages: signed, OfSigned. -/
import Derived.Test.YtocphdikppeijaaGreatLy10
import Derived.Test.YtocphdikppeijaaGreatLy03
import Derived.Test.YtocphdikppeijaaGreatLy34
import Derived.Test.YtocphdikppeijaaGreatLy11
import Derived.Test.YtocphdikppeijaaGreatLy39
namespace Go.Proofs.YtocphdikppeijaaGreat
open Go.RowKit
set_option linter.unusedVariables false
set_option linter.unusedSimpArgs false

theorem fits_ref (m : Sg) (w : World) (h1 : m.body.size ≤ maxLen) (h2 : m.sig.size ≤ maxLen) :
    Calls Tryz.prog 38 #[m.val] w fun e w' => e = .returned (.bool (sgOk m)) ∧ Below w.heap.size w w' := by
  obtain ⟨f, b, g⟩ := m
  simp only at h1 h2
  unfold maxLen at h1 h2
  unfold sgOk Sg.val
  simp only
  by_cases e0 : 0 ≤ f
  · have d0 : decide (0 ≤ f) = true := by simpa using e0
    by_cases e1 : f ≤ 255
    · have d1 : decide (f ≤ 255) = true := by simpa using e1
      by_cases hb : b.size ≤ 1048576
      · have hd : decide ((b.size : Int) ≤ 1048576) = true := by simp only [decide_eq_true_eq]; omega
        go_enter Tryz.func38, Tryz.ntmps38
        go_wp2
        go_ret
        exact ⟨by simp [e0, e1, hb]; omega, by go_grown⟩
      · have hd : decide ((b.size : Int) ≤ 1048576) = false := by simp only [decide_eq_false_iff_not]; omega
        go_enter Tryz.func38, Tryz.ntmps38
        go_wp2
        go_ret
        exact ⟨by simp [e0, e1, hb], by go_grown⟩
    · have d1 : decide (f ≤ 255) = false := by simpa using e1
      go_enter Tryz.func38, Tryz.ntmps38
      go_wp2
      go_ret
      exact ⟨by simp [e0, e1], by go_grown⟩
  · have d0 : decide (0 ≤ f) = false := by simpa using e0
    go_enter Tryz.func38, Tryz.ntmps38
    go_wp2
    go_ret
    exact ⟨by simp [e0], by go_grown⟩

theorem fitAll_ref (v : Value) (l : List Sg) (w : World) (h : Sgs w v l) (hl : l.length < 9223372036854775807) :
    Calls Tryz.prog 79 #[v] w fun e w' => e = .returned (.bool (l.all sgOk)) ∧ Below w.heap.size w w' := by
  rcases h with ⟨⟨pz, cz, rfl⟩, rfl⟩ | ⟨b, off, cap, rfl, hc⟩
  · go_enter Tryz.func79, Tryz.ntmps79
    go_wp2
    refine wp_loop_rounds 1 ?_
    rw [rounds_succ]
    go_wp2
    go_ret
    exact ⟨rfl, Below.refl _ _⟩
  · have hnot : ∀ (x : Bool) (w : World), (Op.unary .not (.bool x)).run Tryz.prog w = .ok (.bool (!x)) w := fun _ _ => rfl
    have HC : Hid _ := hc
    clear hc
    go_enter Tryz.func79, Tryz.ntmps79
    go_wp2
    go_loopw [3] (fun i wr => ∃ k : Nat, k ≤ l.length ∧ i = .int .i64 k ∧ Hid (l.all sgOk = (l.drop k).all sgOk) ∧ Below w.heap.size w wr) (fun i _ => l.length - (intOf i).toNat)
    case atStart => exact ⟨0, Nat.zero_le _, rfl, rfl, Below.refl _ _⟩
    case round =>
      obtain ⟨k, hk, rfl, hR, hb⟩ := hrel
      by_cases hlt : k < l.length
      · have hd : decide ((k : Int) < l.length) = true := by simp only [decide_eq_true_eq]; omega
        obtain ⟨c1, c2, c3, z1, z2⟩ := HC.out k hlt
        have hbl := World.block_lt_of_cell? w _ c1
        have d1 := (hb.cell (p := ⟨b, off + k * 3, none⟩) hbl).trans c1
        have d2 := (hb.cell (p := ⟨b, off + k * 3 + 1, none⟩) hbl).trans c2
        have d3 := (hb.cell (p := ⟨b, off + k * 3 + 2, none⟩) hbl).trans c3
        have hdr : l.drop k = l[k] :: l.drop (k + 1) := List.drop_eq_getElem_cons hlt
        have HD : Hid _ := hdr
        have his := fun wx => fits_ref l[k] wx z1 z2
        have HI : Hid _ := his
        clear hdr his c1 c2 c3
        go_wp2_with fail
        refine (HI.out _).mono ?_
        rintro e w1 ⟨rfl, hb1⟩
        have hbw : Below w.heap.size w w1 := hb.trans (hb1.mono hb.size)
        by_cases hok : sgOk l[k] = true
        · rw [hok]
          go_wp2
          go_roundw
          case rel =>
            refine ⟨k + 1, by omega, by go_num, ?_, hbw⟩
            show _ = _
            rw [hR.out, HD.out, List.all_cons, hok]; simp
          case measure => simp [intOf]; omega
        · have hno : sgOk l[k] = false := by simpa using hok
          have hfin : Hid (l.all sgOk = false) := by
            show _ = _
            rw [hR.out, HD.out, List.all_cons, hno]; rfl
          rw [hno]
          go_wp2
          go_ret
          exact ⟨by rw [hfin.out]; rfl, hbw⟩
      · have hd : decide ((k : Int) < l.length) = false := by simp only [decide_eq_false_iff_not]; omega
        have hfin : Hid (l.all sgOk = true) := by
          show _ = _
          rw [hR.out, List.drop_of_length_le (by omega)]; rfl
        go_wp2
        go_ret
        exact ⟨by rw [hfin.out]; rfl, hb⟩
end Go.Proofs.YtocphdikppeijaaGreat

namespace Go.Proofs.YtocphdikppeijaaGreat
open Go.RowKit
set_option linter.unusedVariables false
set_option linter.unusedSimpArgs false

def nmB : ByteArray := ⟨#[86, 83, 67, 84, 68, 88, 76]⟩
/-- Does a byte stand among the first j of a text? -/
def hasB (t : ByteArray) (c : Nat) (j : Nat) : Bool := (t.data.toList.take j).any fun x => x.toNat == c

theorem hasB_succ (t : ByteArray) (c j : Nat) (h : j < t.size) : hasB t c (j + 1) = (hasB t c j || t[j].toNat == c) := by
  unfold hasB
  rw [List.take_succ_eq_append_getElem (by simpa using h), List.any_append]
  simp; rfl

def isL (b : Bd) : List Bool := [b.view != 0, b.seq != 0, b.client != 0, b.stamp != 0, !b.digest.toList.isEmpty, !b.text.toList.isEmpty, decide (0 < b.list.length)]
def okAt (b : Bd) (may must : ByteArray) (i : Nat) : Bool :=
  !((isL b)[i]! && !hasB may (nmB[i]!).toNat may.size) && !(!(isL b)[i]! && hasB must (nmB[i]!).toNat must.size)
def allowedB (b : Bd) (may must : ByteArray) : Bool := (List.range 7).all (okAt b may must)

theorem nm_0 (wx : World) : (Instr.index 9 (.string ⟨#[86, 83, 67, 84, 68, 88, 76]⟩) (.int .i64 0)).run Tryz.prog wx = .ok (.int .u8 86) wx := by kernel_rfl
theorem nm_1 (wx : World) : (Instr.index 9 (.string ⟨#[86, 83, 67, 84, 68, 88, 76]⟩) (.int .i64 1)).run Tryz.prog wx = .ok (.int .u8 83) wx := by kernel_rfl
theorem nm_2 (wx : World) : (Instr.index 9 (.string ⟨#[86, 83, 67, 84, 68, 88, 76]⟩) (.int .i64 2)).run Tryz.prog wx = .ok (.int .u8 67) wx := by kernel_rfl
theorem nm_3 (wx : World) : (Instr.index 9 (.string ⟨#[86, 83, 67, 84, 68, 88, 76]⟩) (.int .i64 3)).run Tryz.prog wx = .ok (.int .u8 84) wx := by kernel_rfl
theorem nm_4 (wx : World) : (Instr.index 9 (.string ⟨#[86, 83, 67, 84, 68, 88, 76]⟩) (.int .i64 4)).run Tryz.prog wx = .ok (.int .u8 68) wx := by kernel_rfl
theorem nm_5 (wx : World) : (Instr.index 9 (.string ⟨#[86, 83, 67, 84, 68, 88, 76]⟩) (.int .i64 5)).run Tryz.prog wx = .ok (.int .u8 88) wx := by kernel_rfl
theorem nm_6 (wx : World) : (Instr.index 9 (.string ⟨#[86, 83, 67, 84, 68, 88, 76]⟩) (.int .i64 6)).run Tryz.prog wx = .ok (.int .u8 76) wx := by kernel_rfl
theorem nm_idx (k : Nat) (hk : k < 7) (wx : World) : (Instr.index 9 (.string ⟨#[86, 83, 67, 84, 68, 88, 76]⟩) (.int .i64 (k : Int))).run Tryz.prog wx = .ok (.int .u8 ((nmB[k]!).toNat : Int)) wx := by
  have h7 : k = 0 ∨ k = 1 ∨ k = 2 ∨ k = 3 ∨ k = 4 ∨ k = 5 ∨ k = 6 := by omega
  rcases h7 with rfl | rfl | rfl | rfl | rfl | rfl | rfl
  · exact nm_0 wx
  · exact nm_1 wx
  · exact nm_2 wx
  · exact nm_3 wx
  · exact nm_4 wx
  · exact nm_5 wx
  · exact nm_6 wx

theorem beq_cast (a c : Nat) : ((a : Int) == (c : Int)) = (a == c) := by
  rw [Bool.eq_iff_iff]; simp; omega

set_option maxHeartbeats 4000000 in
theorem allowed_ref (b : Bd) (p : Option Addr) (c : Nat) (may must : ByteArray) (w : World) (h3 : b.list.length < 9223372036854775807) (hm1 : may.size ≤ 7) (hm2 : must.size ≤ 7) :
    Calls Tryz.prog 80 #[b.val (.slice p b.list.length c), .string may, .string must] w fun e w' => e = .returned (.bool (allowedB b may must)) ∧ Below w.heap.size w w' := by
  unfold Bd.val
  go_enter Tryz.func80, Tryz.ntmps80
  go_wp2
  have hnot : ∀ (x : Bool) (w : World), (Op.unary .not (.bool x)).run Tryz.prog w = .ok (.bool (!x)) w := fun _ _ => rfl
  have hcell : ∀ k, k < 7 → ((w.alloc (.cells #[.int .i64 b.kind, .int .i64 b.view, .int .i64 b.seq, .int .i64 b.client, .int .i64 b.stamp, .string b.digest, .string b.text, .slice p b.list.length c] 54)).alloc (.cells #[.bool (b.view != 0), .bool (b.seq != 0), .bool (b.client != 0), .bool (b.stamp != 0), .bool (!b.digest.toList.isEmpty), .bool (!b.text.toList.isEmpty), .bool (decide (0 < b.list.length))] 4)).cell? ⟨w.heap.size + 1, k, none⟩ = some (.bool ((isL b)[k]!)) := by
    intro k hk
    refine (blk_new _ _ _ _ (by simp)).cell ?_
    have h7 : k = 0 ∨ k = 1 ∨ k = 2 ∨ k = 3 ∨ k = 4 ∨ k = 5 ∨ k = 6 := by omega
    rcases h7 with rfl | rfl | rfl | rfl | rfl | rfl | rfl <;> rfl
  have hB0 : Below w.heap.size w ((w.alloc (.cells #[.int .i64 b.kind, .int .i64 b.view, .int .i64 b.seq, .int .i64 b.client, .int .i64 b.stamp, .string b.digest, .string b.text, .slice p b.list.length c] 54)).alloc (.cells #[.bool (b.view != 0), .bool (b.seq != 0), .bool (b.client != 0), .bool (b.stamp != 0), .bool (!b.digest.toList.isEmpty), .bool (!b.text.toList.isEmpty), .bool (decide (0 < b.list.length))] 4)) := by go_grown
  have hsz : w.heap.size + 1 < ((w.alloc (.cells #[.int .i64 b.kind, .int .i64 b.view, .int .i64 b.seq, .int .i64 b.client, .int .i64 b.stamp, .string b.digest, .string b.text, .slice p b.list.length c] 54)).alloc (.cells #[.bool (b.view != 0), .bool (b.seq != 0), .bool (b.client != 0), .bool (b.stamp != 0), .bool (!b.digest.toList.isEmpty), .bool (!b.text.toList.isEmpty), .bool (decide (0 < b.list.length))] 4)).heap.size := by simp
  go_loopw [9] (fun i wr => ∃ k : Nat, k ≤ 7 ∧ i = .int .i64 k ∧ Hid (allowedB b may must = (List.range' k (7 - k)).all (okAt b may must)) ∧ Below w.heap.size w wr ∧ Hid (∀ k, k < 7 → wr.cell? ⟨w.heap.size + 1, k, none⟩ = some (.bool ((isL b)[k]!)))) (fun i _ => 7 - (intOf i).toNat)
  case atStart => exact ⟨0, by omega, rfl, rfl, hB0, hcell⟩
  case round =>
    obtain ⟨k, hk, rfl, hR, hb, hcl⟩ := hrel
    clear hcell hB0 hsz
    by_cases hlt : k < 7
    · have hd : decide ((k : Int) < 7) = true := by simp only [decide_eq_true_eq]; omega
      have hck := hcl.out k hlt
      obtain ⟨C, hC⟩ : ∃ C, C = (nmB[k]!).toNat := ⟨_, rfl⟩
      have hC8 : C < 256 := by rw [hC]; exact (nmB[k]!).toNat_lt
      have hidx : ∀ wx : World, (Instr.index 9 (.string ⟨#[86, 83, 67, 84, 68, 88, 76]⟩) (.int .i64 (k : Int))).run Tryz.prog wx = .ok (.int .u8 (C : Int)) wx := by
        intro wx
        rw [hC]
        exact nm_idx k hlt wx
      have HC : Hid _ := hC
      clear hC hck
      go_wp2
      obtain ⟨wo, rfl⟩ : ∃ wo : World, wo = wr := ⟨_, rfl⟩
      go_loopw [10, 12] (fun q i wr => ∃ j : Nat, j ≤ may.size ∧ i = .int .i64 j ∧ q = .bool (hasB may C j) ∧ Below w.heap.size w wr ∧ Hid (∀ k, k < 7 → wr.cell? ⟨w.heap.size + 1, k, none⟩ = some (.bool ((isL b)[k]!)))) (fun _ i _ => may.size - (intOf i).toNat)
      case atStart => exact ⟨0, Nat.zero_le _, rfl, by simp [hasB], hb, hcl⟩
      case round =>
        obtain ⟨j, hj, rfl, rfl, hbj, hclj⟩ := hrel
        by_cases hjl : j < may.size
        · have hdj : decide ((j : Int) < may.size) = true := by simp only [decide_eq_true_eq]; omega
          have hsu := hasB_succ may C j hjl
          have HSU : Hid _ := hsu
          clear hsu
          cases hin : hasB may C j with
          | true =>
            have hfin : Hid (hasB may C (j + 1) = true) := by show _ = _; rw [HSU.out, hin]; rfl
            clear hin
            go_wp2
            go_region
            go_wp2
            go_roundw
            case rel => exact ⟨j + 1, by omega, by go_num, by rw [hfin.out], hbj.drew, hclj⟩
            case measure => simp [intOf]; omega
          | false =>
            have hfin : Hid (hasB may C (j + 1) = (may[j].toNat == C)) := by show _ = _; rw [HSU.out, hin]; simp
            clear hin
            go_wp2
            go_region
            go_wp2
            go_roundw
            case rel => exact ⟨j + 1, by omega, by go_num, by rw [hfin.out, beq_cast], hbj.drew, hclj⟩
            case measure => simp [intOf]; omega
        · have hdj : decide ((j : Int) < may.size) = false := by simp only [decide_eq_false_iff_not]; omega
          have hje : j = may.size := by omega
          subst hje
          clear hjl hj hdj
          go_wp2
          obtain ⟨wq, rfl⟩ : ∃ wq : World, wq = wr := ⟨_, rfl⟩
          go_loopw [11, 13] (fun q i wr => ∃ j : Nat, j ≤ must.size ∧ i = .int .i64 j ∧ q = .bool (hasB must C j) ∧ Below w.heap.size w wr ∧ Hid (∀ k, k < 7 → wr.cell? ⟨w.heap.size + 1, k, none⟩ = some (.bool ((isL b)[k]!)))) (fun _ i _ => must.size - (intOf i).toNat)
          case atStart => exact ⟨0, Nat.zero_le _, rfl, by simp [hasB], hbj, hclj⟩
          case round =>
            obtain ⟨j2, hj2, rfl, rfl, hbj2, hclj2⟩ := hrel
            by_cases hjl : j2 < must.size
            · have hdj : decide ((j2 : Int) < must.size) = true := by simp only [decide_eq_true_eq]; omega
              have hsu := hasB_succ must C j2 hjl
              have HSU : Hid _ := hsu
              clear hsu
              cases hin : hasB must C j2 with
              | true =>
                have hfin : Hid (hasB must C (j2 + 1) = true) := by show _ = _; rw [HSU.out, hin]; rfl
                clear hin
                go_wp2
                go_region
                go_wp2
                go_roundw
                case rel => exact ⟨j2 + 1, by omega, by go_num, by rw [hfin.out], hbj2.drew, hclj2⟩
                case measure => simp [intOf]; omega
              | false =>
                have hfin : Hid (hasB must C (j2 + 1) = (must[j2].toNat == C)) := by show _ = _; rw [HSU.out, hin]; simp
                clear hin
                go_wp2
                go_region
                go_wp2
                go_roundw
                case rel => exact ⟨j2 + 1, by omega, by go_num, by rw [hfin.out, beq_cast], hbj2.drew, hclj2⟩
                case measure => simp [intOf]; omega
            · have hdj : decide ((j2 : Int) < must.size) = false := by simp only [decide_eq_false_iff_not]; omega
              have hje : j2 = must.size := by omega
              subst hje
              clear hjl hj2 hdj
              have hck := hclj2.out k hlt
              have hok : Hid (okAt b may must k = (!((isL b)[k]! && !hasB may C may.size) && !(!(isL b)[k]! && hasB must C must.size))) := by
                show _ = _
                unfold okAt; rw [← HC.out]
              have hrg : Hid (allowedB b may must = (okAt b may must k && (List.range' (k + 1) (7 - (k + 1))).all (okAt b may must))) := by
                show _ = _
                rw [hR.out, show 7 - k = (7 - (k + 1)) + 1 by omega, List.range'_succ, List.all_cons]
              generalize hasB may C may.size = M at *
              generalize hasB must C must.size = Q at *
              generalize (isL b)[k]! = I at *
              cases I <;> cases M <;> cases Q
              all_goals
                go_wp2
                first
                  | (refine ⟨⟨k + 1, by omega, by go_num, ?_, hbj2, hclj2⟩, by simp [intOf]; omega⟩; show _ = _; rw [hrg.out, hok.out]; rfl)
                  | (go_ret; exact ⟨by rw [hrg.out, hok.out]; rfl, hbj2⟩)
    · have hd : decide ((k : Int) < 7) = false := by simp only [decide_eq_false_iff_not]; omega
      have hfin : Hid (allowedB b may must = true) := by
        show _ = _
        rw [hR.out, show 7 - k = 0 by omega]; rfl
      go_wp2
      go_ret
      exact ⟨by rw [hfin.out]; rfl, hb⟩
end Go.Proofs.YtocphdikppeijaaGreat

namespace Go.Proofs.YtocphdikppeijaaGreat
open Go.RowKit
set_option linter.unusedVariables false
set_option linter.unusedSimpArgs false

/-- Every field lies within its bounds. -/
structure Rg (b : Bd) : Prop where
  v0 : ¬ b.view < 0
  v1 : ¬ 1048576 < b.view
  s0 : ¬ b.seq < 0
  s1 : ¬ 1073741824 < b.seq
  c0 : ¬ b.client < 0
  c1 : ¬ 15 < b.client
  t0 : ¬ b.stamp < 0
  t1 : ¬ 1099511627776 < b.stamp
  d : ¬ (32 : Int) < (b.digest.size : Int)
  x : ¬ (1048576 : Int) < (b.text.size : Int)
  l : ¬ (64 : Int) < (b.list.length : Int)
  a : b.list.all sgOk = true

theorem right_bad {b : Bd} (hk : 1 ≤ b.kind ∧ b.kind ≤ 13) (h : ¬ Rg b) : right b = 14 := by
  by_cases h0 : right b = 0
  · obtain ⟨_, hv, hsq, hc, hst, hdg, htx, hll, hal⟩ := right_ok h0
    exact absurd ⟨by omega, by omega, by omega, by omega, by omega, by omega, by omega, by omega, by omega, by omega, by omega, hal⟩ h
  · unfold right at h0 ⊢
    cases hs : shape b.kind with
    | none =>
      exfalso
      obtain ⟨n, hn⟩ := Int.eq_ofNat_of_zero_le (show 0 ≤ b.kind by omega)
      rw [hn] at hs hk
      have hn : n = 1 ∨ n = 2 ∨ n = 3 ∨ n = 4 ∨ n = 5 ∨ n = 6 ∨ n = 7 ∨ n = 8 ∨ n = 9 ∨ n = 10 ∨ n = 11 ∨ n = 12 ∨ n = 13 := by omega
      rcases hn with rfl | rfl | rfl | rfl | rfl | rfl | rfl | rfl | rfl | rfl | rfl | rfl | rfl <;> simp [shape, shapeN] at hs
    | some s =>
      rw [hs] at h0
      simp only at h0 ⊢
      split
      · rfl
      · rename_i hb; rw [if_neg hb] at h0; exact absurd rfl h0

theorem bits_1 (b : Bd) : badBits b ⟨44, 8, 15, 1, 256, 64⟩ = !allowedB b ⟨#[67, 84, 88]⟩ ⟨#[84]⟩ := by
  unfold badBits allowedB okAt flds isL
  generalize (b.view != 0) = x0
  generalize (b.seq != 0) = x1
  generalize (b.client != 0) = x2
  generalize (b.stamp != 0) = x3
  generalize (!b.digest.toList.isEmpty) = x4
  generalize (!b.text.toList.isEmpty) = x5
  generalize decide (0 < b.list.length) = x6
  revert x0 x1 x2 x3 x4 x5 x6
  decide +kernel

theorem bits_2 (b : Bd) : badBits b ⟨67, 2, 15, 1, 1048576, 4⟩ = !allowedB b ⟨#[86, 83, 76]⟩ ⟨#[83]⟩ := by
  unfold badBits allowedB okAt flds isL
  generalize (b.view != 0) = x0
  generalize (b.seq != 0) = x1
  generalize (b.client != 0) = x2
  generalize (b.stamp != 0) = x3
  generalize (!b.digest.toList.isEmpty) = x4
  generalize (!b.text.toList.isEmpty) = x5
  generalize decide (0 < b.list.length) = x6
  revert x0 x1 x2 x3 x4 x5 x6
  decide +kernel

theorem bits_3 (b : Bd) : badBits b ⟨19, 18, 15, 1, 1048576, 64⟩ = !allowedB b ⟨#[86, 83, 68]⟩ ⟨#[83, 68]⟩ := by
  unfold badBits allowedB okAt flds isL
  generalize (b.view != 0) = x0
  generalize (b.seq != 0) = x1
  generalize (b.client != 0) = x2
  generalize (b.stamp != 0) = x3
  generalize (!b.digest.toList.isEmpty) = x4
  generalize (!b.text.toList.isEmpty) = x5
  generalize decide (0 < b.list.length) = x6
  revert x0 x1 x2 x3 x4 x5 x6
  decide +kernel

theorem bits_4 (b : Bd) : badBits b ⟨19, 18, 15, 1, 1048576, 64⟩ = !allowedB b ⟨#[86, 83, 68]⟩ ⟨#[83, 68]⟩ := by
  unfold badBits allowedB okAt flds isL
  generalize (b.view != 0) = x0
  generalize (b.seq != 0) = x1
  generalize (b.client != 0) = x2
  generalize (b.stamp != 0) = x3
  generalize (!b.digest.toList.isEmpty) = x4
  generalize (!b.text.toList.isEmpty) = x5
  generalize decide (0 < b.list.length) = x6
  revert x0 x1 x2 x3 x4 x5 x6
  decide +kernel

theorem bits_5 (b : Bd) : badBits b ⟨18, 18, 15, 4, 1048576, 64⟩ = !allowedB b ⟨#[83, 68]⟩ ⟨#[83, 68]⟩ := by
  unfold badBits allowedB okAt flds isL
  generalize (b.view != 0) = x0
  generalize (b.seq != 0) = x1
  generalize (b.client != 0) = x2
  generalize (b.stamp != 0) = x3
  generalize (!b.digest.toList.isEmpty) = x4
  generalize (!b.text.toList.isEmpty) = x5
  generalize decide (0 < b.list.length) = x6
  revert x0 x1 x2 x3 x4 x5 x6
  decide +kernel

theorem bits_6 (b : Bd) : badBits b ⟨67, 1, 15, 4, 1048576, 64⟩ = !allowedB b ⟨#[86, 83, 76]⟩ ⟨#[86]⟩ := by
  unfold badBits allowedB okAt flds isL
  generalize (b.view != 0) = x0
  generalize (b.seq != 0) = x1
  generalize (b.client != 0) = x2
  generalize (b.stamp != 0) = x3
  generalize (!b.digest.toList.isEmpty) = x4
  generalize (!b.text.toList.isEmpty) = x5
  generalize decide (0 < b.list.length) = x6
  revert x0 x1 x2 x3 x4 x5 x6
  decide +kernel

theorem bits_7 (b : Bd) : badBits b ⟨65, 65, 15, 1, 1048576, 64⟩ = !allowedB b ⟨#[86, 76]⟩ ⟨#[86, 76]⟩ := by
  unfold badBits allowedB okAt flds isL
  generalize (b.view != 0) = x0
  generalize (b.seq != 0) = x1
  generalize (b.client != 0) = x2
  generalize (b.stamp != 0) = x3
  generalize (!b.digest.toList.isEmpty) = x4
  generalize (!b.text.toList.isEmpty) = x5
  generalize decide (0 < b.list.length) = x6
  revert x0 x1 x2 x3 x4 x5 x6
  decide +kernel

theorem bits_8 (b : Bd) : badBits b ⟨15, 0, 1, 1, 1048576, 64⟩ = !allowedB b ⟨#[86, 83, 67, 84]⟩ ⟨#[]⟩ := by
  unfold badBits allowedB okAt flds isL
  generalize (b.view != 0) = x0
  generalize (b.seq != 0) = x1
  generalize (b.client != 0) = x2
  generalize (b.stamp != 0) = x3
  generalize (!b.digest.toList.isEmpty) = x4
  generalize (!b.text.toList.isEmpty) = x5
  generalize decide (0 < b.list.length) = x6
  revert x0 x1 x2 x3 x4 x5 x6
  decide +kernel

theorem bits_9 (b : Bd) : badBits b ⟨114, 82, 15, 4, 1048576, 64⟩ = !allowedB b ⟨#[83, 68, 88, 76]⟩ ⟨#[83, 68, 76]⟩ := by
  unfold badBits allowedB okAt flds isL
  generalize (b.view != 0) = x0
  generalize (b.seq != 0) = x1
  generalize (b.client != 0) = x2
  generalize (b.stamp != 0) = x3
  generalize (!b.digest.toList.isEmpty) = x4
  generalize (!b.text.toList.isEmpty) = x5
  generalize decide (0 < b.list.length) = x6
  revert x0 x1 x2 x3 x4 x5 x6
  decide +kernel

theorem bits_10 (b : Bd) : badBits b ⟨45, 8, 15, 1, 256, 64⟩ = !allowedB b ⟨#[86, 67, 84, 88]⟩ ⟨#[84]⟩ := by
  unfold badBits allowedB okAt flds isL
  generalize (b.view != 0) = x0
  generalize (b.seq != 0) = x1
  generalize (b.client != 0) = x2
  generalize (b.stamp != 0) = x3
  generalize (!b.digest.toList.isEmpty) = x4
  generalize (!b.text.toList.isEmpty) = x5
  generalize decide (0 < b.list.length) = x6
  revert x0 x1 x2 x3 x4 x5 x6
  decide +kernel

theorem bits_11 (b : Bd) : badBits b ⟨115, 82, 15, 1, 1048576, 64⟩ = !allowedB b ⟨#[86, 83, 68, 88, 76]⟩ ⟨#[83, 68, 76]⟩ := by
  unfold badBits allowedB okAt flds isL
  generalize (b.view != 0) = x0
  generalize (b.seq != 0) = x1
  generalize (b.client != 0) = x2
  generalize (b.stamp != 0) = x3
  generalize (!b.digest.toList.isEmpty) = x4
  generalize (!b.text.toList.isEmpty) = x5
  generalize decide (0 < b.list.length) = x6
  revert x0 x1 x2 x3 x4 x5 x6
  decide +kernel

theorem bits_12 (b : Bd) : badBits b ⟨36, 0, 15, 1, 64, 64⟩ = !allowedB b ⟨#[67, 88]⟩ ⟨#[]⟩ := by
  unfold badBits allowedB okAt flds isL
  generalize (b.view != 0) = x0
  generalize (b.seq != 0) = x1
  generalize (b.client != 0) = x2
  generalize (b.stamp != 0) = x3
  generalize (!b.digest.toList.isEmpty) = x4
  generalize (!b.text.toList.isEmpty) = x5
  generalize decide (0 < b.list.length) = x6
  revert x0 x1 x2 x3 x4 x5 x6
  decide +kernel

theorem bits_13 (b : Bd) : badBits b ⟨114, 82, 15, 4, 1048576, 64⟩ = !allowedB b ⟨#[83, 68, 88, 76]⟩ ⟨#[83, 68, 76]⟩ := by
  unfold badBits allowedB okAt flds isL
  generalize (b.view != 0) = x0
  generalize (b.seq != 0) = x1
  generalize (b.client != 0) = x2
  generalize (b.stamp != 0) = x3
  generalize (!b.digest.toList.isEmpty) = x4
  generalize (!b.text.toList.isEmpty) = x5
  generalize decide (0 < b.list.length) = x6
  revert x0 x1 x2 x3 x4 x5 x6
  decide +kernel

end Go.Proofs.YtocphdikppeijaaGreat

namespace Go.Proofs.YtocphdikppeijaaGreat
open Go.RowKit
set_option linter.unusedVariables false
set_option linter.unusedSimpArgs false

theorem right_1 (b : Bd) (hk : b.kind = 1) (h : Rg b) : right b = if allowedB b ⟨#[67, 84, 88]⟩ ⟨#[84]⟩ = true ∧ b.text.size ≤ 256 then 0 else 14 := by
  obtain ⟨v0, v1, s0, s1, c0, c1, t0, t1, d, x, l, a⟩ := h
  have hsh : shape b.kind = some ⟨44, 8, 15, 1, 256, 64⟩ := by rw [hk]; rfl
  have hmod : b.seq.tmod (1 : Nat) = b.seq % 1 := Int.tmod_eq_emod_of_nonneg (by omega)
  unfold right
  rw [hsh]
  simp only
  rw [bits_1]
  have hN : fitsN b ⟨44, 8, 15, 1, 256, 64⟩ = decide (True) := by
    unfold fitsN
    simp only
    rw [hmod, Bool.eq_iff_iff]
    simp only [Bool.and_eq_true, decide_eq_true_eq, beq_iff_eq, iff_true]
    omega
  have hT : fitsT b ⟨44, 8, 15, 1, 256, 64⟩ = decide (b.text.size ≤ 256) := by
    unfold fitsT
    simp only
    rw [a, Bool.eq_iff_iff]
    simp only [Bool.and_eq_true, decide_eq_true_eq, and_true, iff_true]
    omega
  rw [hN, hT]
  cases allowedB b ⟨#[67, 84, 88]⟩ ⟨#[84]⟩ <;> simp <;> (split <;> split <;> omega)

theorem right_2 (b : Bd) (hk : b.kind = 2) (h : Rg b) : right b = if allowedB b ⟨#[86, 83, 76]⟩ ⟨#[83]⟩ = true ∧ b.list.length ≤ 4 then 0 else 14 := by
  obtain ⟨v0, v1, s0, s1, c0, c1, t0, t1, d, x, l, a⟩ := h
  have hsh : shape b.kind = some ⟨67, 2, 15, 1, 1048576, 4⟩ := by rw [hk]; rfl
  have hmod : b.seq.tmod (1 : Nat) = b.seq % 1 := Int.tmod_eq_emod_of_nonneg (by omega)
  unfold right
  rw [hsh]
  simp only
  rw [bits_2]
  have hN : fitsN b ⟨67, 2, 15, 1, 1048576, 4⟩ = decide (True) := by
    unfold fitsN
    simp only
    rw [hmod, Bool.eq_iff_iff]
    simp only [Bool.and_eq_true, decide_eq_true_eq, beq_iff_eq, iff_true]
    omega
  have hT : fitsT b ⟨67, 2, 15, 1, 1048576, 4⟩ = decide (b.list.length ≤ 4) := by
    unfold fitsT
    simp only
    rw [a, Bool.eq_iff_iff]
    simp only [Bool.and_eq_true, decide_eq_true_eq, and_true, iff_true]
    omega
  rw [hN, hT]
  cases allowedB b ⟨#[86, 83, 76]⟩ ⟨#[83]⟩ <;> simp <;> (split <;> split <;> omega)

theorem right_3 (b : Bd) (hk : b.kind = 3) (h : Rg b) : right b = if allowedB b ⟨#[86, 83, 68]⟩ ⟨#[83, 68]⟩ = true then 0 else 14 := by
  obtain ⟨v0, v1, s0, s1, c0, c1, t0, t1, d, x, l, a⟩ := h
  have hsh : shape b.kind = some ⟨19, 18, 15, 1, 1048576, 64⟩ := by rw [hk]; rfl
  have hmod : b.seq.tmod (1 : Nat) = b.seq % 1 := Int.tmod_eq_emod_of_nonneg (by omega)
  unfold right
  rw [hsh]
  simp only
  rw [bits_3]
  have hN : fitsN b ⟨19, 18, 15, 1, 1048576, 64⟩ = decide (True) := by
    unfold fitsN
    simp only
    rw [hmod, Bool.eq_iff_iff]
    simp only [Bool.and_eq_true, decide_eq_true_eq, beq_iff_eq, iff_true]
    omega
  have hT : fitsT b ⟨19, 18, 15, 1, 1048576, 64⟩ = decide (True) := by
    unfold fitsT
    simp only
    rw [a, Bool.eq_iff_iff]
    simp only [Bool.and_eq_true, decide_eq_true_eq, and_true, iff_true]
    omega
  rw [hN, hT]
  cases allowedB b ⟨#[86, 83, 68]⟩ ⟨#[83, 68]⟩ <;> simp <;> (split <;> split <;> omega)

theorem right_4 (b : Bd) (hk : b.kind = 4) (h : Rg b) : right b = if allowedB b ⟨#[86, 83, 68]⟩ ⟨#[83, 68]⟩ = true then 0 else 14 := by
  obtain ⟨v0, v1, s0, s1, c0, c1, t0, t1, d, x, l, a⟩ := h
  have hsh : shape b.kind = some ⟨19, 18, 15, 1, 1048576, 64⟩ := by rw [hk]; rfl
  have hmod : b.seq.tmod (1 : Nat) = b.seq % 1 := Int.tmod_eq_emod_of_nonneg (by omega)
  unfold right
  rw [hsh]
  simp only
  rw [bits_4]
  have hN : fitsN b ⟨19, 18, 15, 1, 1048576, 64⟩ = decide (True) := by
    unfold fitsN
    simp only
    rw [hmod, Bool.eq_iff_iff]
    simp only [Bool.and_eq_true, decide_eq_true_eq, beq_iff_eq, iff_true]
    omega
  have hT : fitsT b ⟨19, 18, 15, 1, 1048576, 64⟩ = decide (True) := by
    unfold fitsT
    simp only
    rw [a, Bool.eq_iff_iff]
    simp only [Bool.and_eq_true, decide_eq_true_eq, and_true, iff_true]
    omega
  rw [hN, hT]
  cases allowedB b ⟨#[86, 83, 68]⟩ ⟨#[83, 68]⟩ <;> simp <;> (split <;> split <;> omega)

theorem right_5 (b : Bd) (hk : b.kind = 5) (h : Rg b) : right b = if allowedB b ⟨#[83, 68]⟩ ⟨#[83, 68]⟩ = true ∧ b.seq % 4 = 0 then 0 else 14 := by
  obtain ⟨v0, v1, s0, s1, c0, c1, t0, t1, d, x, l, a⟩ := h
  have hsh : shape b.kind = some ⟨18, 18, 15, 4, 1048576, 64⟩ := by rw [hk]; rfl
  have hmod : b.seq.tmod (4 : Nat) = b.seq % 4 := Int.tmod_eq_emod_of_nonneg (by omega)
  unfold right
  rw [hsh]
  simp only
  rw [bits_5]
  have hN : fitsN b ⟨18, 18, 15, 4, 1048576, 64⟩ = decide (b.seq % 4 = 0) := by
    unfold fitsN
    simp only
    rw [hmod, Bool.eq_iff_iff]
    simp only [Bool.and_eq_true, decide_eq_true_eq, beq_iff_eq, iff_true]
    omega
  have hT : fitsT b ⟨18, 18, 15, 4, 1048576, 64⟩ = decide (True) := by
    unfold fitsT
    simp only
    rw [a, Bool.eq_iff_iff]
    simp only [Bool.and_eq_true, decide_eq_true_eq, and_true, iff_true]
    omega
  rw [hN, hT]
  cases allowedB b ⟨#[83, 68]⟩ ⟨#[83, 68]⟩ <;> simp <;> (split <;> split <;> omega)

theorem right_6 (b : Bd) (hk : b.kind = 6) (h : Rg b) : right b = if allowedB b ⟨#[86, 83, 76]⟩ ⟨#[86]⟩ = true ∧ b.seq % 4 = 0 then 0 else 14 := by
  obtain ⟨v0, v1, s0, s1, c0, c1, t0, t1, d, x, l, a⟩ := h
  have hsh : shape b.kind = some ⟨67, 1, 15, 4, 1048576, 64⟩ := by rw [hk]; rfl
  have hmod : b.seq.tmod (4 : Nat) = b.seq % 4 := Int.tmod_eq_emod_of_nonneg (by omega)
  unfold right
  rw [hsh]
  simp only
  rw [bits_6]
  have hN : fitsN b ⟨67, 1, 15, 4, 1048576, 64⟩ = decide (b.seq % 4 = 0) := by
    unfold fitsN
    simp only
    rw [hmod, Bool.eq_iff_iff]
    simp only [Bool.and_eq_true, decide_eq_true_eq, beq_iff_eq, iff_true]
    omega
  have hT : fitsT b ⟨67, 1, 15, 4, 1048576, 64⟩ = decide (True) := by
    unfold fitsT
    simp only
    rw [a, Bool.eq_iff_iff]
    simp only [Bool.and_eq_true, decide_eq_true_eq, and_true, iff_true]
    omega
  rw [hN, hT]
  cases allowedB b ⟨#[86, 83, 76]⟩ ⟨#[86]⟩ <;> simp <;> (split <;> split <;> omega)

theorem right_7 (b : Bd) (hk : b.kind = 7) (h : Rg b) : right b = if allowedB b ⟨#[86, 76]⟩ ⟨#[86, 76]⟩ = true then 0 else 14 := by
  obtain ⟨v0, v1, s0, s1, c0, c1, t0, t1, d, x, l, a⟩ := h
  have hsh : shape b.kind = some ⟨65, 65, 15, 1, 1048576, 64⟩ := by rw [hk]; rfl
  have hmod : b.seq.tmod (1 : Nat) = b.seq % 1 := Int.tmod_eq_emod_of_nonneg (by omega)
  unfold right
  rw [hsh]
  simp only
  rw [bits_7]
  have hN : fitsN b ⟨65, 65, 15, 1, 1048576, 64⟩ = decide (True) := by
    unfold fitsN
    simp only
    rw [hmod, Bool.eq_iff_iff]
    simp only [Bool.and_eq_true, decide_eq_true_eq, beq_iff_eq, iff_true]
    omega
  have hT : fitsT b ⟨65, 65, 15, 1, 1048576, 64⟩ = decide (True) := by
    unfold fitsT
    simp only
    rw [a, Bool.eq_iff_iff]
    simp only [Bool.and_eq_true, decide_eq_true_eq, and_true, iff_true]
    omega
  rw [hN, hT]
  cases allowedB b ⟨#[86, 76]⟩ ⟨#[86, 76]⟩ <;> simp <;> (split <;> split <;> omega)

theorem right_8 (b : Bd) (hk : b.kind = 8) (h : Rg b) : right b = if allowedB b ⟨#[86, 83, 67, 84]⟩ ⟨#[]⟩ = true ∧ b.client ≤ 1 then 0 else 14 := by
  obtain ⟨v0, v1, s0, s1, c0, c1, t0, t1, d, x, l, a⟩ := h
  have hsh : shape b.kind = some ⟨15, 0, 1, 1, 1048576, 64⟩ := by rw [hk]; rfl
  have hmod : b.seq.tmod (1 : Nat) = b.seq % 1 := Int.tmod_eq_emod_of_nonneg (by omega)
  unfold right
  rw [hsh]
  simp only
  rw [bits_8]
  have hN : fitsN b ⟨15, 0, 1, 1, 1048576, 64⟩ = decide (b.client ≤ 1) := by
    unfold fitsN
    simp only
    rw [hmod, Bool.eq_iff_iff]
    simp only [Bool.and_eq_true, decide_eq_true_eq, beq_iff_eq, iff_true]
    omega
  have hT : fitsT b ⟨15, 0, 1, 1, 1048576, 64⟩ = decide (True) := by
    unfold fitsT
    simp only
    rw [a, Bool.eq_iff_iff]
    simp only [Bool.and_eq_true, decide_eq_true_eq, and_true, iff_true]
    omega
  rw [hN, hT]
  cases allowedB b ⟨#[86, 83, 67, 84]⟩ ⟨#[]⟩ <;> simp <;> (split <;> split <;> omega)

theorem right_9 (b : Bd) (hk : b.kind = 9) (h : Rg b) : right b = if allowedB b ⟨#[83, 68, 88, 76]⟩ ⟨#[83, 68, 76]⟩ = true ∧ b.seq % 4 = 0 then 0 else 14 := by
  obtain ⟨v0, v1, s0, s1, c0, c1, t0, t1, d, x, l, a⟩ := h
  have hsh : shape b.kind = some ⟨114, 82, 15, 4, 1048576, 64⟩ := by rw [hk]; rfl
  have hmod : b.seq.tmod (4 : Nat) = b.seq % 4 := Int.tmod_eq_emod_of_nonneg (by omega)
  unfold right
  rw [hsh]
  simp only
  rw [bits_9]
  have hN : fitsN b ⟨114, 82, 15, 4, 1048576, 64⟩ = decide (b.seq % 4 = 0) := by
    unfold fitsN
    simp only
    rw [hmod, Bool.eq_iff_iff]
    simp only [Bool.and_eq_true, decide_eq_true_eq, beq_iff_eq, iff_true]
    omega
  have hT : fitsT b ⟨114, 82, 15, 4, 1048576, 64⟩ = decide (True) := by
    unfold fitsT
    simp only
    rw [a, Bool.eq_iff_iff]
    simp only [Bool.and_eq_true, decide_eq_true_eq, and_true, iff_true]
    omega
  rw [hN, hT]
  cases allowedB b ⟨#[83, 68, 88, 76]⟩ ⟨#[83, 68, 76]⟩ <;> simp <;> (split <;> split <;> omega)

theorem right_10 (b : Bd) (hk : b.kind = 10) (h : Rg b) : right b = if allowedB b ⟨#[86, 67, 84, 88]⟩ ⟨#[84]⟩ = true ∧ b.text.size ≤ 256 then 0 else 14 := by
  obtain ⟨v0, v1, s0, s1, c0, c1, t0, t1, d, x, l, a⟩ := h
  have hsh : shape b.kind = some ⟨45, 8, 15, 1, 256, 64⟩ := by rw [hk]; rfl
  have hmod : b.seq.tmod (1 : Nat) = b.seq % 1 := Int.tmod_eq_emod_of_nonneg (by omega)
  unfold right
  rw [hsh]
  simp only
  rw [bits_10]
  have hN : fitsN b ⟨45, 8, 15, 1, 256, 64⟩ = decide (True) := by
    unfold fitsN
    simp only
    rw [hmod, Bool.eq_iff_iff]
    simp only [Bool.and_eq_true, decide_eq_true_eq, beq_iff_eq, iff_true]
    omega
  have hT : fitsT b ⟨45, 8, 15, 1, 256, 64⟩ = decide (b.text.size ≤ 256) := by
    unfold fitsT
    simp only
    rw [a, Bool.eq_iff_iff]
    simp only [Bool.and_eq_true, decide_eq_true_eq, and_true, iff_true]
    omega
  rw [hN, hT]
  cases allowedB b ⟨#[86, 67, 84, 88]⟩ ⟨#[84]⟩ <;> simp <;> (split <;> split <;> omega)

theorem right_11 (b : Bd) (hk : b.kind = 11) (h : Rg b) : right b = if allowedB b ⟨#[86, 83, 68, 88, 76]⟩ ⟨#[83, 68, 76]⟩ = true then 0 else 14 := by
  obtain ⟨v0, v1, s0, s1, c0, c1, t0, t1, d, x, l, a⟩ := h
  have hsh : shape b.kind = some ⟨115, 82, 15, 1, 1048576, 64⟩ := by rw [hk]; rfl
  have hmod : b.seq.tmod (1 : Nat) = b.seq % 1 := Int.tmod_eq_emod_of_nonneg (by omega)
  unfold right
  rw [hsh]
  simp only
  rw [bits_11]
  have hN : fitsN b ⟨115, 82, 15, 1, 1048576, 64⟩ = decide (True) := by
    unfold fitsN
    simp only
    rw [hmod, Bool.eq_iff_iff]
    simp only [Bool.and_eq_true, decide_eq_true_eq, beq_iff_eq, iff_true]
    omega
  have hT : fitsT b ⟨115, 82, 15, 1, 1048576, 64⟩ = decide (True) := by
    unfold fitsT
    simp only
    rw [a, Bool.eq_iff_iff]
    simp only [Bool.and_eq_true, decide_eq_true_eq, and_true, iff_true]
    omega
  rw [hN, hT]
  cases allowedB b ⟨#[86, 83, 68, 88, 76]⟩ ⟨#[83, 68, 76]⟩ <;> simp <;> (split <;> split <;> omega)

theorem right_12 (b : Bd) (hk : b.kind = 12) (h : Rg b) : right b = if allowedB b ⟨#[67, 88]⟩ ⟨#[]⟩ = true ∧ b.text.size ≤ 64 then 0 else 14 := by
  obtain ⟨v0, v1, s0, s1, c0, c1, t0, t1, d, x, l, a⟩ := h
  have hsh : shape b.kind = some ⟨36, 0, 15, 1, 64, 64⟩ := by rw [hk]; rfl
  have hmod : b.seq.tmod (1 : Nat) = b.seq % 1 := Int.tmod_eq_emod_of_nonneg (by omega)
  unfold right
  rw [hsh]
  simp only
  rw [bits_12]
  have hN : fitsN b ⟨36, 0, 15, 1, 64, 64⟩ = decide (True) := by
    unfold fitsN
    simp only
    rw [hmod, Bool.eq_iff_iff]
    simp only [Bool.and_eq_true, decide_eq_true_eq, beq_iff_eq, iff_true]
    omega
  have hT : fitsT b ⟨36, 0, 15, 1, 64, 64⟩ = decide (b.text.size ≤ 64) := by
    unfold fitsT
    simp only
    rw [a, Bool.eq_iff_iff]
    simp only [Bool.and_eq_true, decide_eq_true_eq, and_true, iff_true]
    omega
  rw [hN, hT]
  cases allowedB b ⟨#[67, 88]⟩ ⟨#[]⟩ <;> simp <;> (split <;> split <;> omega)

theorem right_13 (b : Bd) (hk : b.kind = 13) (h : Rg b) : right b = if allowedB b ⟨#[83, 68, 88, 76]⟩ ⟨#[83, 68, 76]⟩ = true ∧ b.seq % 4 = 0 then 0 else 14 := by
  obtain ⟨v0, v1, s0, s1, c0, c1, t0, t1, d, x, l, a⟩ := h
  have hsh : shape b.kind = some ⟨114, 82, 15, 4, 1048576, 64⟩ := by rw [hk]; rfl
  have hmod : b.seq.tmod (4 : Nat) = b.seq % 4 := Int.tmod_eq_emod_of_nonneg (by omega)
  unfold right
  rw [hsh]
  simp only
  rw [bits_13]
  have hN : fitsN b ⟨114, 82, 15, 4, 1048576, 64⟩ = decide (b.seq % 4 = 0) := by
    unfold fitsN
    simp only
    rw [hmod, Bool.eq_iff_iff]
    simp only [Bool.and_eq_true, decide_eq_true_eq, beq_iff_eq, iff_true]
    omega
  have hT : fitsT b ⟨114, 82, 15, 4, 1048576, 64⟩ = decide (True) := by
    unfold fitsT
    simp only
    rw [a, Bool.eq_iff_iff]
    simp only [Bool.and_eq_true, decide_eq_true_eq, and_true, iff_true]
    omega
  rw [hN, hT]
  cases allowedB b ⟨#[83, 68, 88, 76]⟩ ⟨#[83, 68, 76]⟩ <;> simp <;> (split <;> split <;> omega)

end Go.Proofs.YtocphdikppeijaaGreat

namespace Go.Proofs.YtocphdikppeijaaGreat
open Go.RowKit
set_option linter.unusedVariables false
set_option linter.unusedSimpArgs false

set_option maxRecDepth 100000 in
set_option maxHeartbeats 4000000 in
theorem rightRef_1 (b : Bd) (p : Option Addr) (c : Nat) (w : World) (hk : b.kind = 1) (h : Rg b) (h1 : b.digest.size ≤ maxLen) (h2 : b.text.size ≤ maxLen) (h3 : b.list.length < 9223372036854775807) (hl : Sgs w (.slice p b.list.length c) b.list) :
    Calls Tryz.prog 42 #[b.val (.slice p b.list.length c)] w fun e w' => e = .returned (.int .i64 (right b)) ∧ Below w.heap.size w w' := by
  have hnot : ∀ (x : Bool) (w : World), (Op.unary .not (.bool x)).run Tryz.prog w = .ok (.bool (!x)) w := fun _ _ => rfl
  have hrk := right_1 b hk h
  have hnew := bdAt_new w b (.slice p b.list.length c) 54
  have hfa := fun wx (hb : Below w.heap.size w wx) => fitAll_ref (.slice p b.list.length c) b.list wx (hl.below hb) h3
  have hal := fun wx => allowed_ref b p c ⟨#[67, 84, 88]⟩ ⟨#[84]⟩ wx h3 (by decide) (by decide)
  rw [h.a] at hfa
  have HRK : Hid _ := hrk
  have HFA : Hid _ := hfa
  have HAL : Hid _ := hal
  have d1 : decide (b.view < 0) = false := by simpa using h.v0
  have d2 : decide (1048576 < b.view) = false := by simpa using h.v1
  have d3 : decide (b.seq < 0) = false := by simpa using h.s0
  have d4 : decide (1073741824 < b.seq) = false := by simpa using h.s1
  have d5 : decide (b.client < 0) = false := by simpa using h.c0
  have d6 : decide (15 < b.client) = false := by simpa using h.c1
  have d7 : decide (b.stamp < 0) = false := by simpa using h.t0
  have d8 : decide (1099511627776 < b.stamp) = false := by simpa using h.t1
  have d9 : decide ((32 : Int) < (b.digest.size : Int)) = false := by simpa using h.d
  have d10 : decide ((1048576 : Int) < (b.text.size : Int)) = false := by simpa using h.x
  have d11 : decide ((64 : Int) < (b.list.length : Int)) = false := by simpa using h.l
  have hs0 : 0 ≤ b.seq := by have := h.s0; omega
  have hs1 : b.seq ≤ 1073741824 := by have := h.s1; omega
  have kd0 : decide (b.kind < 1) = false := by rw [hk]; decide
  have kd1 : decide (13 < b.kind) = false := by rw [hk]; decide
  have ke1 : (b.kind == 1) = true := by rw [hk]; decide
  clear hrk hfa hal h hl hk
  unfold maxLen at h1 h2
  unfold Bd.val
  go_enter Tryz.func42, Tryz.ntmps42
  go_wp2_with fail
  refine (HFA.out _ (by go_grown)).mono ?_
  rintro e w1 ⟨rfl, b1⟩
  obtain ⟨a0, a1, a2, a3, a4, a5, a6, a7, a8⟩ := hnew.below b1
  have B1 : Below w.heap.size w w1 := (show Below w.heap.size w _ by go_grown).trans (b1.mono (by simp))
  have A1 := hnew.below b1
  clear hnew b1
  go_wp2_with fail
  refine (HAL.out _).mono ?_
  rintro e w2 ⟨rfl, b2⟩
  have B2 := B1.trans (b2.mono B1.size)
  have A2 := A1.below b2
  clear a0 a1 a2 a3 a4 a5 a6 a7 a8
  obtain ⟨a0, a1, a2, a3, a4, a5, a6, a7, a8⟩ := A2
  cases hA : allowedB b ⟨#[67, 84, 88]⟩ ⟨#[84]⟩ with
  | false =>
    have hfin : Hid (right b = 14) := by show _ = _; rw [HRK.out, hA]; simp
    clear hA
    go_wp2
    go_ret
    exact ⟨by rw [hfin.out]; rfl, B2⟩
  | true =>
    cases hc : decide ((b.text.size : Int) ≤ 256) with
    | false =>
      have hfin : Hid (right b = 14) := by
        show _ = _
        rw [HRK.out, if_neg]
        rintro ⟨_, h⟩
        simp at hc; omega
      clear hA
      go_wp2
      go_ret
      exact ⟨by rw [hfin.out]; rfl, B2⟩
    | true =>
      have hfin : Hid (right b = 0) := by
        show _ = _
        rw [HRK.out, if_pos]
        refine ⟨hA, ?_⟩
        simp at hc; omega
      clear hA
      go_wp2
      go_ret
      exact ⟨by rw [hfin.out]; rfl, B2⟩

set_option maxRecDepth 100000 in
set_option maxHeartbeats 4000000 in
theorem rightRef_2 (b : Bd) (p : Option Addr) (c : Nat) (w : World) (hk : b.kind = 2) (h : Rg b) (h1 : b.digest.size ≤ maxLen) (h2 : b.text.size ≤ maxLen) (h3 : b.list.length < 9223372036854775807) (hl : Sgs w (.slice p b.list.length c) b.list) :
    Calls Tryz.prog 42 #[b.val (.slice p b.list.length c)] w fun e w' => e = .returned (.int .i64 (right b)) ∧ Below w.heap.size w w' := by
  have hnot : ∀ (x : Bool) (w : World), (Op.unary .not (.bool x)).run Tryz.prog w = .ok (.bool (!x)) w := fun _ _ => rfl
  have hrk := right_2 b hk h
  have hnew := bdAt_new w b (.slice p b.list.length c) 54
  have hfa := fun wx (hb : Below w.heap.size w wx) => fitAll_ref (.slice p b.list.length c) b.list wx (hl.below hb) h3
  have hal := fun wx => allowed_ref b p c ⟨#[86, 83, 76]⟩ ⟨#[83]⟩ wx h3 (by decide) (by decide)
  rw [h.a] at hfa
  have HRK : Hid _ := hrk
  have HFA : Hid _ := hfa
  have HAL : Hid _ := hal
  have d1 : decide (b.view < 0) = false := by simpa using h.v0
  have d2 : decide (1048576 < b.view) = false := by simpa using h.v1
  have d3 : decide (b.seq < 0) = false := by simpa using h.s0
  have d4 : decide (1073741824 < b.seq) = false := by simpa using h.s1
  have d5 : decide (b.client < 0) = false := by simpa using h.c0
  have d6 : decide (15 < b.client) = false := by simpa using h.c1
  have d7 : decide (b.stamp < 0) = false := by simpa using h.t0
  have d8 : decide (1099511627776 < b.stamp) = false := by simpa using h.t1
  have d9 : decide ((32 : Int) < (b.digest.size : Int)) = false := by simpa using h.d
  have d10 : decide ((1048576 : Int) < (b.text.size : Int)) = false := by simpa using h.x
  have d11 : decide ((64 : Int) < (b.list.length : Int)) = false := by simpa using h.l
  have hs0 : 0 ≤ b.seq := by have := h.s0; omega
  have hs1 : b.seq ≤ 1073741824 := by have := h.s1; omega
  have kd0 : decide (b.kind < 1) = false := by rw [hk]; decide
  have kd1 : decide (13 < b.kind) = false := by rw [hk]; decide
  have ke1 : (b.kind == 1) = false := by rw [hk]; decide
  have ke2 : (b.kind == 2) = true := by rw [hk]; decide
  clear hrk hfa hal h hl hk
  unfold maxLen at h1 h2
  unfold Bd.val
  go_enter Tryz.func42, Tryz.ntmps42
  go_wp2_with fail
  refine (HFA.out _ (by go_grown)).mono ?_
  rintro e w1 ⟨rfl, b1⟩
  obtain ⟨a0, a1, a2, a3, a4, a5, a6, a7, a8⟩ := hnew.below b1
  have B1 : Below w.heap.size w w1 := (show Below w.heap.size w _ by go_grown).trans (b1.mono (by simp))
  have A1 := hnew.below b1
  clear hnew b1
  go_wp2_with fail
  refine (HAL.out _).mono ?_
  rintro e w2 ⟨rfl, b2⟩
  have B2 := B1.trans (b2.mono B1.size)
  have A2 := A1.below b2
  clear a0 a1 a2 a3 a4 a5 a6 a7 a8
  obtain ⟨a0, a1, a2, a3, a4, a5, a6, a7, a8⟩ := A2
  cases hA : allowedB b ⟨#[86, 83, 76]⟩ ⟨#[83]⟩ with
  | false =>
    have hfin : Hid (right b = 14) := by show _ = _; rw [HRK.out, hA]; simp
    clear hA
    go_wp2
    go_ret
    exact ⟨by rw [hfin.out]; rfl, B2⟩
  | true =>
    cases hc : decide ((b.list.length : Int) ≤ 4) with
    | false =>
      have hfin : Hid (right b = 14) := by
        show _ = _
        rw [HRK.out, if_neg]
        rintro ⟨_, h⟩
        simp at hc; omega
      clear hA
      go_wp2
      go_ret
      exact ⟨by rw [hfin.out]; rfl, B2⟩
    | true =>
      have hfin : Hid (right b = 0) := by
        show _ = _
        rw [HRK.out, if_pos]
        refine ⟨hA, ?_⟩
        simp at hc; omega
      clear hA
      go_wp2
      go_ret
      exact ⟨by rw [hfin.out]; rfl, B2⟩

set_option maxRecDepth 100000 in
set_option maxHeartbeats 4000000 in
theorem rightRef_3 (b : Bd) (p : Option Addr) (c : Nat) (w : World) (hk : b.kind = 3) (h : Rg b) (h1 : b.digest.size ≤ maxLen) (h2 : b.text.size ≤ maxLen) (h3 : b.list.length < 9223372036854775807) (hl : Sgs w (.slice p b.list.length c) b.list) :
    Calls Tryz.prog 42 #[b.val (.slice p b.list.length c)] w fun e w' => e = .returned (.int .i64 (right b)) ∧ Below w.heap.size w w' := by
  have hnot : ∀ (x : Bool) (w : World), (Op.unary .not (.bool x)).run Tryz.prog w = .ok (.bool (!x)) w := fun _ _ => rfl
  have hrk := right_3 b hk h
  have hnew := bdAt_new w b (.slice p b.list.length c) 54
  have hfa := fun wx (hb : Below w.heap.size w wx) => fitAll_ref (.slice p b.list.length c) b.list wx (hl.below hb) h3
  have hal := fun wx => allowed_ref b p c ⟨#[86, 83, 68]⟩ ⟨#[83, 68]⟩ wx h3 (by decide) (by decide)
  rw [h.a] at hfa
  have HRK : Hid _ := hrk
  have HFA : Hid _ := hfa
  have HAL : Hid _ := hal
  have d1 : decide (b.view < 0) = false := by simpa using h.v0
  have d2 : decide (1048576 < b.view) = false := by simpa using h.v1
  have d3 : decide (b.seq < 0) = false := by simpa using h.s0
  have d4 : decide (1073741824 < b.seq) = false := by simpa using h.s1
  have d5 : decide (b.client < 0) = false := by simpa using h.c0
  have d6 : decide (15 < b.client) = false := by simpa using h.c1
  have d7 : decide (b.stamp < 0) = false := by simpa using h.t0
  have d8 : decide (1099511627776 < b.stamp) = false := by simpa using h.t1
  have d9 : decide ((32 : Int) < (b.digest.size : Int)) = false := by simpa using h.d
  have d10 : decide ((1048576 : Int) < (b.text.size : Int)) = false := by simpa using h.x
  have d11 : decide ((64 : Int) < (b.list.length : Int)) = false := by simpa using h.l
  have hs0 : 0 ≤ b.seq := by have := h.s0; omega
  have hs1 : b.seq ≤ 1073741824 := by have := h.s1; omega
  have kd0 : decide (b.kind < 1) = false := by rw [hk]; decide
  have kd1 : decide (13 < b.kind) = false := by rw [hk]; decide
  have ke1 : (b.kind == 1) = false := by rw [hk]; decide
  have ke2 : (b.kind == 2) = false := by rw [hk]; decide
  have ke3 : (b.kind == 3) = true := by rw [hk]; decide
  clear hrk hfa hal h hl hk
  unfold maxLen at h1 h2
  unfold Bd.val
  go_enter Tryz.func42, Tryz.ntmps42
  go_wp2_with fail
  refine (HFA.out _ (by go_grown)).mono ?_
  rintro e w1 ⟨rfl, b1⟩
  obtain ⟨a0, a1, a2, a3, a4, a5, a6, a7, a8⟩ := hnew.below b1
  have B1 : Below w.heap.size w w1 := (show Below w.heap.size w _ by go_grown).trans (b1.mono (by simp))
  have A1 := hnew.below b1
  clear hnew b1
  go_wp2_with fail
  refine (HAL.out _).mono ?_
  rintro e w2 ⟨rfl, b2⟩
  have B2 := B1.trans (b2.mono B1.size)
  have A2 := A1.below b2
  clear a0 a1 a2 a3 a4 a5 a6 a7 a8
  obtain ⟨a0, a1, a2, a3, a4, a5, a6, a7, a8⟩ := A2
  cases hA : allowedB b ⟨#[86, 83, 68]⟩ ⟨#[83, 68]⟩ with
  | false =>
    have hfin : Hid (right b = 14) := by show _ = _; rw [HRK.out, hA]; simp
    clear hA
    go_wp2
    go_ret
    exact ⟨by rw [hfin.out]; rfl, B2⟩
  | true =>
    have hfin : Hid (right b = 0) := by show _ = _; rw [HRK.out, hA]; simp
    clear hA
    go_wp2
    go_ret
    exact ⟨by rw [hfin.out]; rfl, B2⟩

set_option maxRecDepth 100000 in
set_option maxHeartbeats 4000000 in
theorem rightRef_4 (b : Bd) (p : Option Addr) (c : Nat) (w : World) (hk : b.kind = 4) (h : Rg b) (h1 : b.digest.size ≤ maxLen) (h2 : b.text.size ≤ maxLen) (h3 : b.list.length < 9223372036854775807) (hl : Sgs w (.slice p b.list.length c) b.list) :
    Calls Tryz.prog 42 #[b.val (.slice p b.list.length c)] w fun e w' => e = .returned (.int .i64 (right b)) ∧ Below w.heap.size w w' := by
  have hnot : ∀ (x : Bool) (w : World), (Op.unary .not (.bool x)).run Tryz.prog w = .ok (.bool (!x)) w := fun _ _ => rfl
  have hrk := right_4 b hk h
  have hnew := bdAt_new w b (.slice p b.list.length c) 54
  have hfa := fun wx (hb : Below w.heap.size w wx) => fitAll_ref (.slice p b.list.length c) b.list wx (hl.below hb) h3
  have hal := fun wx => allowed_ref b p c ⟨#[86, 83, 68]⟩ ⟨#[83, 68]⟩ wx h3 (by decide) (by decide)
  rw [h.a] at hfa
  have HRK : Hid _ := hrk
  have HFA : Hid _ := hfa
  have HAL : Hid _ := hal
  have d1 : decide (b.view < 0) = false := by simpa using h.v0
  have d2 : decide (1048576 < b.view) = false := by simpa using h.v1
  have d3 : decide (b.seq < 0) = false := by simpa using h.s0
  have d4 : decide (1073741824 < b.seq) = false := by simpa using h.s1
  have d5 : decide (b.client < 0) = false := by simpa using h.c0
  have d6 : decide (15 < b.client) = false := by simpa using h.c1
  have d7 : decide (b.stamp < 0) = false := by simpa using h.t0
  have d8 : decide (1099511627776 < b.stamp) = false := by simpa using h.t1
  have d9 : decide ((32 : Int) < (b.digest.size : Int)) = false := by simpa using h.d
  have d10 : decide ((1048576 : Int) < (b.text.size : Int)) = false := by simpa using h.x
  have d11 : decide ((64 : Int) < (b.list.length : Int)) = false := by simpa using h.l
  have hs0 : 0 ≤ b.seq := by have := h.s0; omega
  have hs1 : b.seq ≤ 1073741824 := by have := h.s1; omega
  have kd0 : decide (b.kind < 1) = false := by rw [hk]; decide
  have kd1 : decide (13 < b.kind) = false := by rw [hk]; decide
  have ke1 : (b.kind == 1) = false := by rw [hk]; decide
  have ke2 : (b.kind == 2) = false := by rw [hk]; decide
  have ke3 : (b.kind == 3) = false := by rw [hk]; decide
  have ke4 : (b.kind == 4) = true := by rw [hk]; decide
  clear hrk hfa hal h hl hk
  unfold maxLen at h1 h2
  unfold Bd.val
  go_enter Tryz.func42, Tryz.ntmps42
  go_wp2_with fail
  refine (HFA.out _ (by go_grown)).mono ?_
  rintro e w1 ⟨rfl, b1⟩
  obtain ⟨a0, a1, a2, a3, a4, a5, a6, a7, a8⟩ := hnew.below b1
  have B1 : Below w.heap.size w w1 := (show Below w.heap.size w _ by go_grown).trans (b1.mono (by simp))
  have A1 := hnew.below b1
  clear hnew b1
  go_wp2_with fail
  refine (HAL.out _).mono ?_
  rintro e w2 ⟨rfl, b2⟩
  have B2 := B1.trans (b2.mono B1.size)
  have A2 := A1.below b2
  clear a0 a1 a2 a3 a4 a5 a6 a7 a8
  obtain ⟨a0, a1, a2, a3, a4, a5, a6, a7, a8⟩ := A2
  cases hA : allowedB b ⟨#[86, 83, 68]⟩ ⟨#[83, 68]⟩ with
  | false =>
    have hfin : Hid (right b = 14) := by show _ = _; rw [HRK.out, hA]; simp
    clear hA
    go_wp2
    go_ret
    exact ⟨by rw [hfin.out]; rfl, B2⟩
  | true =>
    have hfin : Hid (right b = 0) := by show _ = _; rw [HRK.out, hA]; simp
    clear hA
    go_wp2
    go_ret
    exact ⟨by rw [hfin.out]; rfl, B2⟩

set_option maxRecDepth 100000 in
set_option maxHeartbeats 4000000 in
theorem rightRef_5 (b : Bd) (p : Option Addr) (c : Nat) (w : World) (hk : b.kind = 5) (h : Rg b) (h1 : b.digest.size ≤ maxLen) (h2 : b.text.size ≤ maxLen) (h3 : b.list.length < 9223372036854775807) (hl : Sgs w (.slice p b.list.length c) b.list) :
    Calls Tryz.prog 42 #[b.val (.slice p b.list.length c)] w fun e w' => e = .returned (.int .i64 (right b)) ∧ Below w.heap.size w w' := by
  have hnot : ∀ (x : Bool) (w : World), (Op.unary .not (.bool x)).run Tryz.prog w = .ok (.bool (!x)) w := fun _ _ => rfl
  have hrk := right_5 b hk h
  have hnew := bdAt_new w b (.slice p b.list.length c) 54
  have hfa := fun wx (hb : Below w.heap.size w wx) => fitAll_ref (.slice p b.list.length c) b.list wx (hl.below hb) h3
  have hal := fun wx => allowed_ref b p c ⟨#[83, 68]⟩ ⟨#[83, 68]⟩ wx h3 (by decide) (by decide)
  rw [h.a] at hfa
  have HRK : Hid _ := hrk
  have HFA : Hid _ := hfa
  have HAL : Hid _ := hal
  have d1 : decide (b.view < 0) = false := by simpa using h.v0
  have d2 : decide (1048576 < b.view) = false := by simpa using h.v1
  have d3 : decide (b.seq < 0) = false := by simpa using h.s0
  have d4 : decide (1073741824 < b.seq) = false := by simpa using h.s1
  have d5 : decide (b.client < 0) = false := by simpa using h.c0
  have d6 : decide (15 < b.client) = false := by simpa using h.c1
  have d7 : decide (b.stamp < 0) = false := by simpa using h.t0
  have d8 : decide (1099511627776 < b.stamp) = false := by simpa using h.t1
  have d9 : decide ((32 : Int) < (b.digest.size : Int)) = false := by simpa using h.d
  have d10 : decide ((1048576 : Int) < (b.text.size : Int)) = false := by simpa using h.x
  have d11 : decide ((64 : Int) < (b.list.length : Int)) = false := by simpa using h.l
  have hs0 : 0 ≤ b.seq := by have := h.s0; omega
  have hs1 : b.seq ≤ 1073741824 := by have := h.s1; omega
  have kd0 : decide (b.kind < 1) = false := by rw [hk]; decide
  have kd1 : decide (13 < b.kind) = false := by rw [hk]; decide
  have ke1 : (b.kind == 1) = false := by rw [hk]; decide
  have ke2 : (b.kind == 2) = false := by rw [hk]; decide
  have ke3 : (b.kind == 3) = false := by rw [hk]; decide
  have ke4 : (b.kind == 4) = false := by rw [hk]; decide
  have ke5 : (b.kind == 5) = true := by rw [hk]; decide
  clear hrk hfa hal h hl hk
  unfold maxLen at h1 h2
  unfold Bd.val
  go_enter Tryz.func42, Tryz.ntmps42
  go_wp2_with fail
  refine (HFA.out _ (by go_grown)).mono ?_
  rintro e w1 ⟨rfl, b1⟩
  obtain ⟨a0, a1, a2, a3, a4, a5, a6, a7, a8⟩ := hnew.below b1
  have B1 : Below w.heap.size w w1 := (show Below w.heap.size w _ by go_grown).trans (b1.mono (by simp))
  have A1 := hnew.below b1
  clear hnew b1
  go_wp2_with fail
  refine (HAL.out _).mono ?_
  rintro e w2 ⟨rfl, b2⟩
  have B2 := B1.trans (b2.mono B1.size)
  have A2 := A1.below b2
  clear a0 a1 a2 a3 a4 a5 a6 a7 a8
  obtain ⟨a0, a1, a2, a3, a4, a5, a6, a7, a8⟩ := A2
  cases hA : allowedB b ⟨#[83, 68]⟩ ⟨#[83, 68]⟩ with
  | false =>
    have hfin : Hid (right b = 14) := by show _ = _; rw [HRK.out, hA]; simp
    clear hA
    go_wp2
    go_ret
    exact ⟨by rw [hfin.out]; rfl, B2⟩
  | true =>
    cases hc : (b.seq % 4 == 0) with
    | false =>
      have hfin : Hid (right b = 14) := by
        show _ = _
        rw [HRK.out, if_neg]
        rintro ⟨_, h⟩
        simp at hc; omega
      clear hA
      go_wp2
      go_ret
      exact ⟨by rw [hfin.out]; rfl, B2⟩
    | true =>
      have hfin : Hid (right b = 0) := by
        show _ = _
        rw [HRK.out, if_pos]
        refine ⟨hA, ?_⟩
        simp at hc; omega
      clear hA
      go_wp2
      go_ret
      exact ⟨by rw [hfin.out]; rfl, B2⟩

set_option maxRecDepth 100000 in
set_option maxHeartbeats 4000000 in
theorem rightRef_6 (b : Bd) (p : Option Addr) (c : Nat) (w : World) (hk : b.kind = 6) (h : Rg b) (h1 : b.digest.size ≤ maxLen) (h2 : b.text.size ≤ maxLen) (h3 : b.list.length < 9223372036854775807) (hl : Sgs w (.slice p b.list.length c) b.list) :
    Calls Tryz.prog 42 #[b.val (.slice p b.list.length c)] w fun e w' => e = .returned (.int .i64 (right b)) ∧ Below w.heap.size w w' := by
  have hnot : ∀ (x : Bool) (w : World), (Op.unary .not (.bool x)).run Tryz.prog w = .ok (.bool (!x)) w := fun _ _ => rfl
  have hrk := right_6 b hk h
  have hnew := bdAt_new w b (.slice p b.list.length c) 54
  have hfa := fun wx (hb : Below w.heap.size w wx) => fitAll_ref (.slice p b.list.length c) b.list wx (hl.below hb) h3
  have hal := fun wx => allowed_ref b p c ⟨#[86, 83, 76]⟩ ⟨#[86]⟩ wx h3 (by decide) (by decide)
  rw [h.a] at hfa
  have HRK : Hid _ := hrk
  have HFA : Hid _ := hfa
  have HAL : Hid _ := hal
  have d1 : decide (b.view < 0) = false := by simpa using h.v0
  have d2 : decide (1048576 < b.view) = false := by simpa using h.v1
  have d3 : decide (b.seq < 0) = false := by simpa using h.s0
  have d4 : decide (1073741824 < b.seq) = false := by simpa using h.s1
  have d5 : decide (b.client < 0) = false := by simpa using h.c0
  have d6 : decide (15 < b.client) = false := by simpa using h.c1
  have d7 : decide (b.stamp < 0) = false := by simpa using h.t0
  have d8 : decide (1099511627776 < b.stamp) = false := by simpa using h.t1
  have d9 : decide ((32 : Int) < (b.digest.size : Int)) = false := by simpa using h.d
  have d10 : decide ((1048576 : Int) < (b.text.size : Int)) = false := by simpa using h.x
  have d11 : decide ((64 : Int) < (b.list.length : Int)) = false := by simpa using h.l
  have hs0 : 0 ≤ b.seq := by have := h.s0; omega
  have hs1 : b.seq ≤ 1073741824 := by have := h.s1; omega
  have kd0 : decide (b.kind < 1) = false := by rw [hk]; decide
  have kd1 : decide (13 < b.kind) = false := by rw [hk]; decide
  have ke1 : (b.kind == 1) = false := by rw [hk]; decide
  have ke2 : (b.kind == 2) = false := by rw [hk]; decide
  have ke3 : (b.kind == 3) = false := by rw [hk]; decide
  have ke4 : (b.kind == 4) = false := by rw [hk]; decide
  have ke5 : (b.kind == 5) = false := by rw [hk]; decide
  have ke6 : (b.kind == 6) = true := by rw [hk]; decide
  clear hrk hfa hal h hl hk
  unfold maxLen at h1 h2
  unfold Bd.val
  go_enter Tryz.func42, Tryz.ntmps42
  go_wp2_with fail
  refine (HFA.out _ (by go_grown)).mono ?_
  rintro e w1 ⟨rfl, b1⟩
  obtain ⟨a0, a1, a2, a3, a4, a5, a6, a7, a8⟩ := hnew.below b1
  have B1 : Below w.heap.size w w1 := (show Below w.heap.size w _ by go_grown).trans (b1.mono (by simp))
  have A1 := hnew.below b1
  clear hnew b1
  go_wp2_with fail
  refine (HAL.out _).mono ?_
  rintro e w2 ⟨rfl, b2⟩
  have B2 := B1.trans (b2.mono B1.size)
  have A2 := A1.below b2
  clear a0 a1 a2 a3 a4 a5 a6 a7 a8
  obtain ⟨a0, a1, a2, a3, a4, a5, a6, a7, a8⟩ := A2
  cases hA : allowedB b ⟨#[86, 83, 76]⟩ ⟨#[86]⟩ with
  | false =>
    have hfin : Hid (right b = 14) := by show _ = _; rw [HRK.out, hA]; simp
    clear hA
    go_wp2
    go_ret
    exact ⟨by rw [hfin.out]; rfl, B2⟩
  | true =>
    cases hc : (b.seq % 4 == 0) with
    | false =>
      have hfin : Hid (right b = 14) := by
        show _ = _
        rw [HRK.out, if_neg]
        rintro ⟨_, h⟩
        simp at hc; omega
      clear hA
      go_wp2
      go_ret
      exact ⟨by rw [hfin.out]; rfl, B2⟩
    | true =>
      have hfin : Hid (right b = 0) := by
        show _ = _
        rw [HRK.out, if_pos]
        refine ⟨hA, ?_⟩
        simp at hc; omega
      clear hA
      go_wp2
      go_ret
      exact ⟨by rw [hfin.out]; rfl, B2⟩

set_option maxRecDepth 100000 in
set_option maxHeartbeats 4000000 in
theorem rightRef_7 (b : Bd) (p : Option Addr) (c : Nat) (w : World) (hk : b.kind = 7) (h : Rg b) (h1 : b.digest.size ≤ maxLen) (h2 : b.text.size ≤ maxLen) (h3 : b.list.length < 9223372036854775807) (hl : Sgs w (.slice p b.list.length c) b.list) :
    Calls Tryz.prog 42 #[b.val (.slice p b.list.length c)] w fun e w' => e = .returned (.int .i64 (right b)) ∧ Below w.heap.size w w' := by
  have hnot : ∀ (x : Bool) (w : World), (Op.unary .not (.bool x)).run Tryz.prog w = .ok (.bool (!x)) w := fun _ _ => rfl
  have hrk := right_7 b hk h
  have hnew := bdAt_new w b (.slice p b.list.length c) 54
  have hfa := fun wx (hb : Below w.heap.size w wx) => fitAll_ref (.slice p b.list.length c) b.list wx (hl.below hb) h3
  have hal := fun wx => allowed_ref b p c ⟨#[86, 76]⟩ ⟨#[86, 76]⟩ wx h3 (by decide) (by decide)
  rw [h.a] at hfa
  have HRK : Hid _ := hrk
  have HFA : Hid _ := hfa
  have HAL : Hid _ := hal
  have d1 : decide (b.view < 0) = false := by simpa using h.v0
  have d2 : decide (1048576 < b.view) = false := by simpa using h.v1
  have d3 : decide (b.seq < 0) = false := by simpa using h.s0
  have d4 : decide (1073741824 < b.seq) = false := by simpa using h.s1
  have d5 : decide (b.client < 0) = false := by simpa using h.c0
  have d6 : decide (15 < b.client) = false := by simpa using h.c1
  have d7 : decide (b.stamp < 0) = false := by simpa using h.t0
  have d8 : decide (1099511627776 < b.stamp) = false := by simpa using h.t1
  have d9 : decide ((32 : Int) < (b.digest.size : Int)) = false := by simpa using h.d
  have d10 : decide ((1048576 : Int) < (b.text.size : Int)) = false := by simpa using h.x
  have d11 : decide ((64 : Int) < (b.list.length : Int)) = false := by simpa using h.l
  have hs0 : 0 ≤ b.seq := by have := h.s0; omega
  have hs1 : b.seq ≤ 1073741824 := by have := h.s1; omega
  have kd0 : decide (b.kind < 1) = false := by rw [hk]; decide
  have kd1 : decide (13 < b.kind) = false := by rw [hk]; decide
  have ke1 : (b.kind == 1) = false := by rw [hk]; decide
  have ke2 : (b.kind == 2) = false := by rw [hk]; decide
  have ke3 : (b.kind == 3) = false := by rw [hk]; decide
  have ke4 : (b.kind == 4) = false := by rw [hk]; decide
  have ke5 : (b.kind == 5) = false := by rw [hk]; decide
  have ke6 : (b.kind == 6) = false := by rw [hk]; decide
  have ke7 : (b.kind == 7) = true := by rw [hk]; decide
  clear hrk hfa hal h hl hk
  unfold maxLen at h1 h2
  unfold Bd.val
  go_enter Tryz.func42, Tryz.ntmps42
  go_wp2_with fail
  refine (HFA.out _ (by go_grown)).mono ?_
  rintro e w1 ⟨rfl, b1⟩
  obtain ⟨a0, a1, a2, a3, a4, a5, a6, a7, a8⟩ := hnew.below b1
  have B1 : Below w.heap.size w w1 := (show Below w.heap.size w _ by go_grown).trans (b1.mono (by simp))
  have A1 := hnew.below b1
  clear hnew b1
  go_wp2_with fail
  refine (HAL.out _).mono ?_
  rintro e w2 ⟨rfl, b2⟩
  have B2 := B1.trans (b2.mono B1.size)
  have A2 := A1.below b2
  clear a0 a1 a2 a3 a4 a5 a6 a7 a8
  obtain ⟨a0, a1, a2, a3, a4, a5, a6, a7, a8⟩ := A2
  cases hA : allowedB b ⟨#[86, 76]⟩ ⟨#[86, 76]⟩ with
  | false =>
    have hfin : Hid (right b = 14) := by show _ = _; rw [HRK.out, hA]; simp
    clear hA
    go_wp2
    go_ret
    exact ⟨by rw [hfin.out]; rfl, B2⟩
  | true =>
    have hfin : Hid (right b = 0) := by show _ = _; rw [HRK.out, hA]; simp
    clear hA
    go_wp2
    go_ret
    exact ⟨by rw [hfin.out]; rfl, B2⟩

set_option maxRecDepth 100000 in
set_option maxHeartbeats 4000000 in
theorem rightRef_8 (b : Bd) (p : Option Addr) (c : Nat) (w : World) (hk : b.kind = 8) (h : Rg b) (h1 : b.digest.size ≤ maxLen) (h2 : b.text.size ≤ maxLen) (h3 : b.list.length < 9223372036854775807) (hl : Sgs w (.slice p b.list.length c) b.list) :
    Calls Tryz.prog 42 #[b.val (.slice p b.list.length c)] w fun e w' => e = .returned (.int .i64 (right b)) ∧ Below w.heap.size w w' := by
  have hnot : ∀ (x : Bool) (w : World), (Op.unary .not (.bool x)).run Tryz.prog w = .ok (.bool (!x)) w := fun _ _ => rfl
  have hrk := right_8 b hk h
  have hnew := bdAt_new w b (.slice p b.list.length c) 54
  have hfa := fun wx (hb : Below w.heap.size w wx) => fitAll_ref (.slice p b.list.length c) b.list wx (hl.below hb) h3
  have hal := fun wx => allowed_ref b p c ⟨#[86, 83, 67, 84]⟩ ⟨#[]⟩ wx h3 (by decide) (by decide)
  rw [h.a] at hfa
  have HRK : Hid _ := hrk
  have HFA : Hid _ := hfa
  have HAL : Hid _ := hal
  have d1 : decide (b.view < 0) = false := by simpa using h.v0
  have d2 : decide (1048576 < b.view) = false := by simpa using h.v1
  have d3 : decide (b.seq < 0) = false := by simpa using h.s0
  have d4 : decide (1073741824 < b.seq) = false := by simpa using h.s1
  have d5 : decide (b.client < 0) = false := by simpa using h.c0
  have d6 : decide (15 < b.client) = false := by simpa using h.c1
  have d7 : decide (b.stamp < 0) = false := by simpa using h.t0
  have d8 : decide (1099511627776 < b.stamp) = false := by simpa using h.t1
  have d9 : decide ((32 : Int) < (b.digest.size : Int)) = false := by simpa using h.d
  have d10 : decide ((1048576 : Int) < (b.text.size : Int)) = false := by simpa using h.x
  have d11 : decide ((64 : Int) < (b.list.length : Int)) = false := by simpa using h.l
  have hs0 : 0 ≤ b.seq := by have := h.s0; omega
  have hs1 : b.seq ≤ 1073741824 := by have := h.s1; omega
  have kd0 : decide (b.kind < 1) = false := by rw [hk]; decide
  have kd1 : decide (13 < b.kind) = false := by rw [hk]; decide
  have ke1 : (b.kind == 1) = false := by rw [hk]; decide
  have ke2 : (b.kind == 2) = false := by rw [hk]; decide
  have ke3 : (b.kind == 3) = false := by rw [hk]; decide
  have ke4 : (b.kind == 4) = false := by rw [hk]; decide
  have ke5 : (b.kind == 5) = false := by rw [hk]; decide
  have ke6 : (b.kind == 6) = false := by rw [hk]; decide
  have ke7 : (b.kind == 7) = false := by rw [hk]; decide
  have ke8 : (b.kind == 8) = true := by rw [hk]; decide
  clear hrk hfa hal h hl hk
  unfold maxLen at h1 h2
  unfold Bd.val
  go_enter Tryz.func42, Tryz.ntmps42
  go_wp2_with fail
  refine (HFA.out _ (by go_grown)).mono ?_
  rintro e w1 ⟨rfl, b1⟩
  obtain ⟨a0, a1, a2, a3, a4, a5, a6, a7, a8⟩ := hnew.below b1
  have B1 : Below w.heap.size w w1 := (show Below w.heap.size w _ by go_grown).trans (b1.mono (by simp))
  have A1 := hnew.below b1
  clear hnew b1
  go_wp2_with fail
  refine (HAL.out _).mono ?_
  rintro e w2 ⟨rfl, b2⟩
  have B2 := B1.trans (b2.mono B1.size)
  have A2 := A1.below b2
  clear a0 a1 a2 a3 a4 a5 a6 a7 a8
  obtain ⟨a0, a1, a2, a3, a4, a5, a6, a7, a8⟩ := A2
  cases hA : allowedB b ⟨#[86, 83, 67, 84]⟩ ⟨#[]⟩ with
  | false =>
    have hfin : Hid (right b = 14) := by show _ = _; rw [HRK.out, hA]; simp
    clear hA
    go_wp2
    go_ret
    exact ⟨by rw [hfin.out]; rfl, B2⟩
  | true =>
    cases hc : decide (b.client ≤ 1) with
    | false =>
      have hfin : Hid (right b = 14) := by
        show _ = _
        rw [HRK.out, if_neg]
        rintro ⟨_, h⟩
        simp at hc; omega
      clear hA
      go_wp2
      go_ret
      exact ⟨by rw [hfin.out]; rfl, B2⟩
    | true =>
      have hfin : Hid (right b = 0) := by
        show _ = _
        rw [HRK.out, if_pos]
        refine ⟨hA, ?_⟩
        simp at hc; omega
      clear hA
      go_wp2
      go_ret
      exact ⟨by rw [hfin.out]; rfl, B2⟩

set_option maxRecDepth 100000 in
set_option maxHeartbeats 4000000 in
theorem rightRef_9 (b : Bd) (p : Option Addr) (c : Nat) (w : World) (hk : b.kind = 9) (h : Rg b) (h1 : b.digest.size ≤ maxLen) (h2 : b.text.size ≤ maxLen) (h3 : b.list.length < 9223372036854775807) (hl : Sgs w (.slice p b.list.length c) b.list) :
    Calls Tryz.prog 42 #[b.val (.slice p b.list.length c)] w fun e w' => e = .returned (.int .i64 (right b)) ∧ Below w.heap.size w w' := by
  have hnot : ∀ (x : Bool) (w : World), (Op.unary .not (.bool x)).run Tryz.prog w = .ok (.bool (!x)) w := fun _ _ => rfl
  have hrk := right_9 b hk h
  have hnew := bdAt_new w b (.slice p b.list.length c) 54
  have hfa := fun wx (hb : Below w.heap.size w wx) => fitAll_ref (.slice p b.list.length c) b.list wx (hl.below hb) h3
  have hal := fun wx => allowed_ref b p c ⟨#[83, 68, 88, 76]⟩ ⟨#[83, 68, 76]⟩ wx h3 (by decide) (by decide)
  rw [h.a] at hfa
  have HRK : Hid _ := hrk
  have HFA : Hid _ := hfa
  have HAL : Hid _ := hal
  have d1 : decide (b.view < 0) = false := by simpa using h.v0
  have d2 : decide (1048576 < b.view) = false := by simpa using h.v1
  have d3 : decide (b.seq < 0) = false := by simpa using h.s0
  have d4 : decide (1073741824 < b.seq) = false := by simpa using h.s1
  have d5 : decide (b.client < 0) = false := by simpa using h.c0
  have d6 : decide (15 < b.client) = false := by simpa using h.c1
  have d7 : decide (b.stamp < 0) = false := by simpa using h.t0
  have d8 : decide (1099511627776 < b.stamp) = false := by simpa using h.t1
  have d9 : decide ((32 : Int) < (b.digest.size : Int)) = false := by simpa using h.d
  have d10 : decide ((1048576 : Int) < (b.text.size : Int)) = false := by simpa using h.x
  have d11 : decide ((64 : Int) < (b.list.length : Int)) = false := by simpa using h.l
  have hs0 : 0 ≤ b.seq := by have := h.s0; omega
  have hs1 : b.seq ≤ 1073741824 := by have := h.s1; omega
  have kd0 : decide (b.kind < 1) = false := by rw [hk]; decide
  have kd1 : decide (13 < b.kind) = false := by rw [hk]; decide
  have ke1 : (b.kind == 1) = false := by rw [hk]; decide
  have ke2 : (b.kind == 2) = false := by rw [hk]; decide
  have ke3 : (b.kind == 3) = false := by rw [hk]; decide
  have ke4 : (b.kind == 4) = false := by rw [hk]; decide
  have ke5 : (b.kind == 5) = false := by rw [hk]; decide
  have ke6 : (b.kind == 6) = false := by rw [hk]; decide
  have ke7 : (b.kind == 7) = false := by rw [hk]; decide
  have ke8 : (b.kind == 8) = false := by rw [hk]; decide
  have ke9 : (b.kind == 9) = true := by rw [hk]; decide
  clear hrk hfa hal h hl hk
  unfold maxLen at h1 h2
  unfold Bd.val
  go_enter Tryz.func42, Tryz.ntmps42
  go_wp2_with fail
  refine (HFA.out _ (by go_grown)).mono ?_
  rintro e w1 ⟨rfl, b1⟩
  obtain ⟨a0, a1, a2, a3, a4, a5, a6, a7, a8⟩ := hnew.below b1
  have B1 : Below w.heap.size w w1 := (show Below w.heap.size w _ by go_grown).trans (b1.mono (by simp))
  have A1 := hnew.below b1
  clear hnew b1
  go_wp2_with fail
  refine (HAL.out _).mono ?_
  rintro e w2 ⟨rfl, b2⟩
  have B2 := B1.trans (b2.mono B1.size)
  have A2 := A1.below b2
  clear a0 a1 a2 a3 a4 a5 a6 a7 a8
  obtain ⟨a0, a1, a2, a3, a4, a5, a6, a7, a8⟩ := A2
  cases hA : allowedB b ⟨#[83, 68, 88, 76]⟩ ⟨#[83, 68, 76]⟩ with
  | false =>
    have hfin : Hid (right b = 14) := by show _ = _; rw [HRK.out, hA]; simp
    clear hA
    go_wp2
    go_ret
    exact ⟨by rw [hfin.out]; rfl, B2⟩
  | true =>
    cases hc : (b.seq % 4 == 0) with
    | false =>
      have hfin : Hid (right b = 14) := by
        show _ = _
        rw [HRK.out, if_neg]
        rintro ⟨_, h⟩
        simp at hc; omega
      clear hA
      go_wp2
      go_ret
      exact ⟨by rw [hfin.out]; rfl, B2⟩
    | true =>
      have hfin : Hid (right b = 0) := by
        show _ = _
        rw [HRK.out, if_pos]
        refine ⟨hA, ?_⟩
        simp at hc; omega
      clear hA
      go_wp2
      go_ret
      exact ⟨by rw [hfin.out]; rfl, B2⟩

set_option maxRecDepth 100000 in
set_option maxHeartbeats 4000000 in
theorem rightRef_10 (b : Bd) (p : Option Addr) (c : Nat) (w : World) (hk : b.kind = 10) (h : Rg b) (h1 : b.digest.size ≤ maxLen) (h2 : b.text.size ≤ maxLen) (h3 : b.list.length < 9223372036854775807) (hl : Sgs w (.slice p b.list.length c) b.list) :
    Calls Tryz.prog 42 #[b.val (.slice p b.list.length c)] w fun e w' => e = .returned (.int .i64 (right b)) ∧ Below w.heap.size w w' := by
  have hnot : ∀ (x : Bool) (w : World), (Op.unary .not (.bool x)).run Tryz.prog w = .ok (.bool (!x)) w := fun _ _ => rfl
  have hrk := right_10 b hk h
  have hnew := bdAt_new w b (.slice p b.list.length c) 54
  have hfa := fun wx (hb : Below w.heap.size w wx) => fitAll_ref (.slice p b.list.length c) b.list wx (hl.below hb) h3
  have hal := fun wx => allowed_ref b p c ⟨#[86, 67, 84, 88]⟩ ⟨#[84]⟩ wx h3 (by decide) (by decide)
  rw [h.a] at hfa
  have HRK : Hid _ := hrk
  have HFA : Hid _ := hfa
  have HAL : Hid _ := hal
  have d1 : decide (b.view < 0) = false := by simpa using h.v0
  have d2 : decide (1048576 < b.view) = false := by simpa using h.v1
  have d3 : decide (b.seq < 0) = false := by simpa using h.s0
  have d4 : decide (1073741824 < b.seq) = false := by simpa using h.s1
  have d5 : decide (b.client < 0) = false := by simpa using h.c0
  have d6 : decide (15 < b.client) = false := by simpa using h.c1
  have d7 : decide (b.stamp < 0) = false := by simpa using h.t0
  have d8 : decide (1099511627776 < b.stamp) = false := by simpa using h.t1
  have d9 : decide ((32 : Int) < (b.digest.size : Int)) = false := by simpa using h.d
  have d10 : decide ((1048576 : Int) < (b.text.size : Int)) = false := by simpa using h.x
  have d11 : decide ((64 : Int) < (b.list.length : Int)) = false := by simpa using h.l
  have hs0 : 0 ≤ b.seq := by have := h.s0; omega
  have hs1 : b.seq ≤ 1073741824 := by have := h.s1; omega
  have kd0 : decide (b.kind < 1) = false := by rw [hk]; decide
  have kd1 : decide (13 < b.kind) = false := by rw [hk]; decide
  have ke1 : (b.kind == 1) = false := by rw [hk]; decide
  have ke2 : (b.kind == 2) = false := by rw [hk]; decide
  have ke3 : (b.kind == 3) = false := by rw [hk]; decide
  have ke4 : (b.kind == 4) = false := by rw [hk]; decide
  have ke5 : (b.kind == 5) = false := by rw [hk]; decide
  have ke6 : (b.kind == 6) = false := by rw [hk]; decide
  have ke7 : (b.kind == 7) = false := by rw [hk]; decide
  have ke8 : (b.kind == 8) = false := by rw [hk]; decide
  have ke9 : (b.kind == 9) = false := by rw [hk]; decide
  have ke13 : (b.kind == 13) = false := by rw [hk]; decide
  have ke10 : (b.kind == 10) = true := by rw [hk]; decide
  clear hrk hfa hal h hl hk
  unfold maxLen at h1 h2
  unfold Bd.val
  go_enter Tryz.func42, Tryz.ntmps42
  go_wp2_with fail
  refine (HFA.out _ (by go_grown)).mono ?_
  rintro e w1 ⟨rfl, b1⟩
  obtain ⟨a0, a1, a2, a3, a4, a5, a6, a7, a8⟩ := hnew.below b1
  have B1 : Below w.heap.size w w1 := (show Below w.heap.size w _ by go_grown).trans (b1.mono (by simp))
  have A1 := hnew.below b1
  clear hnew b1
  go_wp2_with fail
  refine (HAL.out _).mono ?_
  rintro e w2 ⟨rfl, b2⟩
  have B2 := B1.trans (b2.mono B1.size)
  have A2 := A1.below b2
  clear a0 a1 a2 a3 a4 a5 a6 a7 a8
  obtain ⟨a0, a1, a2, a3, a4, a5, a6, a7, a8⟩ := A2
  cases hA : allowedB b ⟨#[86, 67, 84, 88]⟩ ⟨#[84]⟩ with
  | false =>
    have hfin : Hid (right b = 14) := by show _ = _; rw [HRK.out, hA]; simp
    clear hA
    go_wp2
    go_ret
    exact ⟨by rw [hfin.out]; rfl, B2⟩
  | true =>
    cases hc : decide ((b.text.size : Int) ≤ 256) with
    | false =>
      have hfin : Hid (right b = 14) := by
        show _ = _
        rw [HRK.out, if_neg]
        rintro ⟨_, h⟩
        simp at hc; omega
      clear hA
      go_wp2
      go_ret
      exact ⟨by rw [hfin.out]; rfl, B2⟩
    | true =>
      have hfin : Hid (right b = 0) := by
        show _ = _
        rw [HRK.out, if_pos]
        refine ⟨hA, ?_⟩
        simp at hc; omega
      clear hA
      go_wp2
      go_ret
      exact ⟨by rw [hfin.out]; rfl, B2⟩

set_option maxRecDepth 100000 in
set_option maxHeartbeats 4000000 in
theorem rightRef_11 (b : Bd) (p : Option Addr) (c : Nat) (w : World) (hk : b.kind = 11) (h : Rg b) (h1 : b.digest.size ≤ maxLen) (h2 : b.text.size ≤ maxLen) (h3 : b.list.length < 9223372036854775807) (hl : Sgs w (.slice p b.list.length c) b.list) :
    Calls Tryz.prog 42 #[b.val (.slice p b.list.length c)] w fun e w' => e = .returned (.int .i64 (right b)) ∧ Below w.heap.size w w' := by
  have hnot : ∀ (x : Bool) (w : World), (Op.unary .not (.bool x)).run Tryz.prog w = .ok (.bool (!x)) w := fun _ _ => rfl
  have hrk := right_11 b hk h
  have hnew := bdAt_new w b (.slice p b.list.length c) 54
  have hfa := fun wx (hb : Below w.heap.size w wx) => fitAll_ref (.slice p b.list.length c) b.list wx (hl.below hb) h3
  have hal := fun wx => allowed_ref b p c ⟨#[86, 83, 68, 88, 76]⟩ ⟨#[83, 68, 76]⟩ wx h3 (by decide) (by decide)
  rw [h.a] at hfa
  have HRK : Hid _ := hrk
  have HFA : Hid _ := hfa
  have HAL : Hid _ := hal
  have d1 : decide (b.view < 0) = false := by simpa using h.v0
  have d2 : decide (1048576 < b.view) = false := by simpa using h.v1
  have d3 : decide (b.seq < 0) = false := by simpa using h.s0
  have d4 : decide (1073741824 < b.seq) = false := by simpa using h.s1
  have d5 : decide (b.client < 0) = false := by simpa using h.c0
  have d6 : decide (15 < b.client) = false := by simpa using h.c1
  have d7 : decide (b.stamp < 0) = false := by simpa using h.t0
  have d8 : decide (1099511627776 < b.stamp) = false := by simpa using h.t1
  have d9 : decide ((32 : Int) < (b.digest.size : Int)) = false := by simpa using h.d
  have d10 : decide ((1048576 : Int) < (b.text.size : Int)) = false := by simpa using h.x
  have d11 : decide ((64 : Int) < (b.list.length : Int)) = false := by simpa using h.l
  have hs0 : 0 ≤ b.seq := by have := h.s0; omega
  have hs1 : b.seq ≤ 1073741824 := by have := h.s1; omega
  have kd0 : decide (b.kind < 1) = false := by rw [hk]; decide
  have kd1 : decide (13 < b.kind) = false := by rw [hk]; decide
  have ke1 : (b.kind == 1) = false := by rw [hk]; decide
  have ke2 : (b.kind == 2) = false := by rw [hk]; decide
  have ke3 : (b.kind == 3) = false := by rw [hk]; decide
  have ke4 : (b.kind == 4) = false := by rw [hk]; decide
  have ke5 : (b.kind == 5) = false := by rw [hk]; decide
  have ke6 : (b.kind == 6) = false := by rw [hk]; decide
  have ke7 : (b.kind == 7) = false := by rw [hk]; decide
  have ke8 : (b.kind == 8) = false := by rw [hk]; decide
  have ke9 : (b.kind == 9) = false := by rw [hk]; decide
  have ke13 : (b.kind == 13) = false := by rw [hk]; decide
  have ke10 : (b.kind == 10) = false := by rw [hk]; decide
  have ke11 : (b.kind == 11) = true := by rw [hk]; decide
  clear hrk hfa hal h hl hk
  unfold maxLen at h1 h2
  unfold Bd.val
  go_enter Tryz.func42, Tryz.ntmps42
  go_wp2_with fail
  refine (HFA.out _ (by go_grown)).mono ?_
  rintro e w1 ⟨rfl, b1⟩
  obtain ⟨a0, a1, a2, a3, a4, a5, a6, a7, a8⟩ := hnew.below b1
  have B1 : Below w.heap.size w w1 := (show Below w.heap.size w _ by go_grown).trans (b1.mono (by simp))
  have A1 := hnew.below b1
  clear hnew b1
  go_wp2_with fail
  refine (HAL.out _).mono ?_
  rintro e w2 ⟨rfl, b2⟩
  have B2 := B1.trans (b2.mono B1.size)
  have A2 := A1.below b2
  clear a0 a1 a2 a3 a4 a5 a6 a7 a8
  obtain ⟨a0, a1, a2, a3, a4, a5, a6, a7, a8⟩ := A2
  cases hA : allowedB b ⟨#[86, 83, 68, 88, 76]⟩ ⟨#[83, 68, 76]⟩ with
  | false =>
    have hfin : Hid (right b = 14) := by show _ = _; rw [HRK.out, hA]; simp
    clear hA
    go_wp2
    go_ret
    exact ⟨by rw [hfin.out]; rfl, B2⟩
  | true =>
    have hfin : Hid (right b = 0) := by show _ = _; rw [HRK.out, hA]; simp
    clear hA
    go_wp2
    go_ret
    exact ⟨by rw [hfin.out]; rfl, B2⟩

set_option maxRecDepth 100000 in
set_option maxHeartbeats 4000000 in
theorem rightRef_12 (b : Bd) (p : Option Addr) (c : Nat) (w : World) (hk : b.kind = 12) (h : Rg b) (h1 : b.digest.size ≤ maxLen) (h2 : b.text.size ≤ maxLen) (h3 : b.list.length < 9223372036854775807) (hl : Sgs w (.slice p b.list.length c) b.list) :
    Calls Tryz.prog 42 #[b.val (.slice p b.list.length c)] w fun e w' => e = .returned (.int .i64 (right b)) ∧ Below w.heap.size w w' := by
  have hnot : ∀ (x : Bool) (w : World), (Op.unary .not (.bool x)).run Tryz.prog w = .ok (.bool (!x)) w := fun _ _ => rfl
  have hrk := right_12 b hk h
  have hnew := bdAt_new w b (.slice p b.list.length c) 54
  have hfa := fun wx (hb : Below w.heap.size w wx) => fitAll_ref (.slice p b.list.length c) b.list wx (hl.below hb) h3
  have hal := fun wx => allowed_ref b p c ⟨#[67, 88]⟩ ⟨#[]⟩ wx h3 (by decide) (by decide)
  rw [h.a] at hfa
  have HRK : Hid _ := hrk
  have HFA : Hid _ := hfa
  have HAL : Hid _ := hal
  have d1 : decide (b.view < 0) = false := by simpa using h.v0
  have d2 : decide (1048576 < b.view) = false := by simpa using h.v1
  have d3 : decide (b.seq < 0) = false := by simpa using h.s0
  have d4 : decide (1073741824 < b.seq) = false := by simpa using h.s1
  have d5 : decide (b.client < 0) = false := by simpa using h.c0
  have d6 : decide (15 < b.client) = false := by simpa using h.c1
  have d7 : decide (b.stamp < 0) = false := by simpa using h.t0
  have d8 : decide (1099511627776 < b.stamp) = false := by simpa using h.t1
  have d9 : decide ((32 : Int) < (b.digest.size : Int)) = false := by simpa using h.d
  have d10 : decide ((1048576 : Int) < (b.text.size : Int)) = false := by simpa using h.x
  have d11 : decide ((64 : Int) < (b.list.length : Int)) = false := by simpa using h.l
  have hs0 : 0 ≤ b.seq := by have := h.s0; omega
  have hs1 : b.seq ≤ 1073741824 := by have := h.s1; omega
  have kd0 : decide (b.kind < 1) = false := by rw [hk]; decide
  have kd1 : decide (13 < b.kind) = false := by rw [hk]; decide
  have ke1 : (b.kind == 1) = false := by rw [hk]; decide
  have ke2 : (b.kind == 2) = false := by rw [hk]; decide
  have ke3 : (b.kind == 3) = false := by rw [hk]; decide
  have ke4 : (b.kind == 4) = false := by rw [hk]; decide
  have ke5 : (b.kind == 5) = false := by rw [hk]; decide
  have ke6 : (b.kind == 6) = false := by rw [hk]; decide
  have ke7 : (b.kind == 7) = false := by rw [hk]; decide
  have ke8 : (b.kind == 8) = false := by rw [hk]; decide
  have ke9 : (b.kind == 9) = false := by rw [hk]; decide
  have ke13 : (b.kind == 13) = false := by rw [hk]; decide
  have ke10 : (b.kind == 10) = false := by rw [hk]; decide
  have ke11 : (b.kind == 11) = false := by rw [hk]; decide
  have ke12 : (b.kind == 12) = true := by rw [hk]; decide
  clear hrk hfa hal h hl hk
  unfold maxLen at h1 h2
  unfold Bd.val
  go_enter Tryz.func42, Tryz.ntmps42
  go_wp2_with fail
  refine (HFA.out _ (by go_grown)).mono ?_
  rintro e w1 ⟨rfl, b1⟩
  obtain ⟨a0, a1, a2, a3, a4, a5, a6, a7, a8⟩ := hnew.below b1
  have B1 : Below w.heap.size w w1 := (show Below w.heap.size w _ by go_grown).trans (b1.mono (by simp))
  have A1 := hnew.below b1
  clear hnew b1
  go_wp2_with fail
  refine (HAL.out _).mono ?_
  rintro e w2 ⟨rfl, b2⟩
  have B2 := B1.trans (b2.mono B1.size)
  have A2 := A1.below b2
  clear a0 a1 a2 a3 a4 a5 a6 a7 a8
  obtain ⟨a0, a1, a2, a3, a4, a5, a6, a7, a8⟩ := A2
  cases hA : allowedB b ⟨#[67, 88]⟩ ⟨#[]⟩ with
  | false =>
    have hfin : Hid (right b = 14) := by show _ = _; rw [HRK.out, hA]; simp
    clear hA
    go_wp2
    go_ret
    exact ⟨by rw [hfin.out]; rfl, B2⟩
  | true =>
    cases hc : decide ((b.text.size : Int) ≤ 64) with
    | false =>
      have hfin : Hid (right b = 14) := by
        show _ = _
        rw [HRK.out, if_neg]
        rintro ⟨_, h⟩
        simp at hc; omega
      clear hA
      go_wp2
      go_ret
      exact ⟨by rw [hfin.out]; rfl, B2⟩
    | true =>
      have hfin : Hid (right b = 0) := by
        show _ = _
        rw [HRK.out, if_pos]
        refine ⟨hA, ?_⟩
        simp at hc; omega
      clear hA
      go_wp2
      go_ret
      exact ⟨by rw [hfin.out]; rfl, B2⟩

set_option maxRecDepth 100000 in
set_option maxHeartbeats 4000000 in
theorem rightRef_13 (b : Bd) (p : Option Addr) (c : Nat) (w : World) (hk : b.kind = 13) (h : Rg b) (h1 : b.digest.size ≤ maxLen) (h2 : b.text.size ≤ maxLen) (h3 : b.list.length < 9223372036854775807) (hl : Sgs w (.slice p b.list.length c) b.list) :
    Calls Tryz.prog 42 #[b.val (.slice p b.list.length c)] w fun e w' => e = .returned (.int .i64 (right b)) ∧ Below w.heap.size w w' := by
  have hnot : ∀ (x : Bool) (w : World), (Op.unary .not (.bool x)).run Tryz.prog w = .ok (.bool (!x)) w := fun _ _ => rfl
  have hrk := right_13 b hk h
  have hnew := bdAt_new w b (.slice p b.list.length c) 54
  have hfa := fun wx (hb : Below w.heap.size w wx) => fitAll_ref (.slice p b.list.length c) b.list wx (hl.below hb) h3
  have hal := fun wx => allowed_ref b p c ⟨#[83, 68, 88, 76]⟩ ⟨#[83, 68, 76]⟩ wx h3 (by decide) (by decide)
  rw [h.a] at hfa
  have HRK : Hid _ := hrk
  have HFA : Hid _ := hfa
  have HAL : Hid _ := hal
  have d1 : decide (b.view < 0) = false := by simpa using h.v0
  have d2 : decide (1048576 < b.view) = false := by simpa using h.v1
  have d3 : decide (b.seq < 0) = false := by simpa using h.s0
  have d4 : decide (1073741824 < b.seq) = false := by simpa using h.s1
  have d5 : decide (b.client < 0) = false := by simpa using h.c0
  have d6 : decide (15 < b.client) = false := by simpa using h.c1
  have d7 : decide (b.stamp < 0) = false := by simpa using h.t0
  have d8 : decide (1099511627776 < b.stamp) = false := by simpa using h.t1
  have d9 : decide ((32 : Int) < (b.digest.size : Int)) = false := by simpa using h.d
  have d10 : decide ((1048576 : Int) < (b.text.size : Int)) = false := by simpa using h.x
  have d11 : decide ((64 : Int) < (b.list.length : Int)) = false := by simpa using h.l
  have hs0 : 0 ≤ b.seq := by have := h.s0; omega
  have hs1 : b.seq ≤ 1073741824 := by have := h.s1; omega
  have kd0 : decide (b.kind < 1) = false := by rw [hk]; decide
  have kd1 : decide (13 < b.kind) = false := by rw [hk]; decide
  have ke1 : (b.kind == 1) = false := by rw [hk]; decide
  have ke2 : (b.kind == 2) = false := by rw [hk]; decide
  have ke3 : (b.kind == 3) = false := by rw [hk]; decide
  have ke4 : (b.kind == 4) = false := by rw [hk]; decide
  have ke5 : (b.kind == 5) = false := by rw [hk]; decide
  have ke6 : (b.kind == 6) = false := by rw [hk]; decide
  have ke7 : (b.kind == 7) = false := by rw [hk]; decide
  have ke8 : (b.kind == 8) = false := by rw [hk]; decide
  have ke9 : (b.kind == 9) = false := by rw [hk]; decide
  have ke13 : (b.kind == 13) = true := by rw [hk]; decide
  clear hrk hfa hal h hl hk
  unfold maxLen at h1 h2
  unfold Bd.val
  go_enter Tryz.func42, Tryz.ntmps42
  go_wp2_with fail
  refine (HFA.out _ (by go_grown)).mono ?_
  rintro e w1 ⟨rfl, b1⟩
  obtain ⟨a0, a1, a2, a3, a4, a5, a6, a7, a8⟩ := hnew.below b1
  have B1 : Below w.heap.size w w1 := (show Below w.heap.size w _ by go_grown).trans (b1.mono (by simp))
  have A1 := hnew.below b1
  clear hnew b1
  go_wp2_with fail
  refine (HAL.out _).mono ?_
  rintro e w2 ⟨rfl, b2⟩
  have B2 := B1.trans (b2.mono B1.size)
  have A2 := A1.below b2
  clear a0 a1 a2 a3 a4 a5 a6 a7 a8
  obtain ⟨a0, a1, a2, a3, a4, a5, a6, a7, a8⟩ := A2
  cases hA : allowedB b ⟨#[83, 68, 88, 76]⟩ ⟨#[83, 68, 76]⟩ with
  | false =>
    have hfin : Hid (right b = 14) := by show _ = _; rw [HRK.out, hA]; simp
    clear hA
    go_wp2
    go_ret
    exact ⟨by rw [hfin.out]; rfl, B2⟩
  | true =>
    cases hc : (b.seq % 4 == 0) with
    | false =>
      have hfin : Hid (right b = 14) := by
        show _ = _
        rw [HRK.out, if_neg]
        rintro ⟨_, h⟩
        simp at hc; omega
      clear hA
      go_wp2
      go_ret
      exact ⟨by rw [hfin.out]; rfl, B2⟩
    | true =>
      have hfin : Hid (right b = 0) := by
        show _ = _
        rw [HRK.out, if_pos]
        refine ⟨hA, ?_⟩
        simp at hc; omega
      clear hA
      go_wp2
      go_ret
      exact ⟨by rw [hfin.out]; rfl, B2⟩

end Go.Proofs.YtocphdikppeijaaGreat

namespace Go.Proofs.YtocphdikppeijaaGreat
open Go.RowKit
set_option linter.unusedVariables false
set_option linter.unusedSimpArgs false

set_option maxRecDepth 100000 in
set_option maxHeartbeats 1000000 in
theorem rightRef_lo (b : Bd) (p : Option Addr) (c : Nat) (w : World) (hk : b.kind < 1) :
    Calls Tryz.prog 42 #[b.val (.slice p b.list.length c)] w fun e w' => e = .returned (.int .i64 13) ∧ Below w.heap.size w w' := by
  have kd0 : decide (b.kind < 1) = true := by simpa using hk
  clear hk
  unfold Bd.val
  go_enter Tryz.func42, Tryz.ntmps42
  go_wp2
  go_ret
  exact ⟨rfl, by go_grown⟩

set_option maxRecDepth 100000 in
set_option maxHeartbeats 1000000 in
theorem rightRef_hi (b : Bd) (p : Option Addr) (c : Nat) (w : World) (hk0 : ¬ b.kind < 1) (hk : 13 < b.kind) :
    Calls Tryz.prog 42 #[b.val (.slice p b.list.length c)] w fun e w' => e = .returned (.int .i64 13) ∧ Below w.heap.size w w' := by
  have kd0 : decide (b.kind < 1) = false := by simpa using hk0
  have kd1 : decide (13 < b.kind) = true := by simpa using hk
  clear hk hk0
  unfold Bd.val
  go_enter Tryz.func42, Tryz.ntmps42
  go_wp2
  go_ret
  exact ⟨rfl, by go_grown⟩

set_option maxRecDepth 100000 in
set_option maxHeartbeats 1000000 in
theorem rightRef_b1 (b : Bd) (p : Option Addr) (c : Nat) (w : World) (k0 : ¬ b.kind < 1) (k1 : ¬ 13 < b.kind) (h1 : b.digest.size ≤ maxLen) (h2 : b.text.size ≤ maxLen) (h3 : b.list.length < 9223372036854775807)  (g1 : b.view < 0) :
    Calls Tryz.prog 42 #[b.val (.slice p b.list.length c)] w fun e w' => e = .returned (.int .i64 14) ∧ Below w.heap.size w w' := by
  unfold maxLen at h1 h2
  have kd0 : decide (b.kind < 1) = false := by simpa using k0
  have kd1 : decide (13 < b.kind) = false := by simpa using k1
  have d1 : decide (b.view < 0) = true := by simpa using g1
  clear k0 k1 g1
  unfold Bd.val
  go_enter Tryz.func42, Tryz.ntmps42
  go_wp2
  go_ret
  exact ⟨rfl, by go_grown⟩

set_option maxRecDepth 100000 in
set_option maxHeartbeats 1000000 in
theorem rightRef_b2 (b : Bd) (p : Option Addr) (c : Nat) (w : World) (k0 : ¬ b.kind < 1) (k1 : ¬ 13 < b.kind) (h1 : b.digest.size ≤ maxLen) (h2 : b.text.size ≤ maxLen) (h3 : b.list.length < 9223372036854775807) (g1 : ¬ b.view < 0) (g2 : 1048576 < b.view) :
    Calls Tryz.prog 42 #[b.val (.slice p b.list.length c)] w fun e w' => e = .returned (.int .i64 14) ∧ Below w.heap.size w w' := by
  unfold maxLen at h1 h2
  have kd0 : decide (b.kind < 1) = false := by simpa using k0
  have kd1 : decide (13 < b.kind) = false := by simpa using k1
  have d1 : decide (b.view < 0) = false := by simpa using g1
  have d2 : decide (1048576 < b.view) = true := by simpa using g2
  clear k0 k1 g1 g2
  unfold Bd.val
  go_enter Tryz.func42, Tryz.ntmps42
  go_wp2
  go_ret
  exact ⟨rfl, by go_grown⟩

set_option maxRecDepth 100000 in
set_option maxHeartbeats 1000000 in
theorem rightRef_b3 (b : Bd) (p : Option Addr) (c : Nat) (w : World) (k0 : ¬ b.kind < 1) (k1 : ¬ 13 < b.kind) (h1 : b.digest.size ≤ maxLen) (h2 : b.text.size ≤ maxLen) (h3 : b.list.length < 9223372036854775807) (g1 : ¬ b.view < 0) (g2 : ¬ 1048576 < b.view) (g3 : b.seq < 0) :
    Calls Tryz.prog 42 #[b.val (.slice p b.list.length c)] w fun e w' => e = .returned (.int .i64 14) ∧ Below w.heap.size w w' := by
  unfold maxLen at h1 h2
  have kd0 : decide (b.kind < 1) = false := by simpa using k0
  have kd1 : decide (13 < b.kind) = false := by simpa using k1
  have d1 : decide (b.view < 0) = false := by simpa using g1
  have d2 : decide (1048576 < b.view) = false := by simpa using g2
  have d3 : decide (b.seq < 0) = true := by simpa using g3
  clear k0 k1 g1 g2 g3
  unfold Bd.val
  go_enter Tryz.func42, Tryz.ntmps42
  go_wp2
  go_ret
  exact ⟨rfl, by go_grown⟩

set_option maxRecDepth 100000 in
set_option maxHeartbeats 1000000 in
theorem rightRef_b4 (b : Bd) (p : Option Addr) (c : Nat) (w : World) (k0 : ¬ b.kind < 1) (k1 : ¬ 13 < b.kind) (h1 : b.digest.size ≤ maxLen) (h2 : b.text.size ≤ maxLen) (h3 : b.list.length < 9223372036854775807) (g1 : ¬ b.view < 0) (g2 : ¬ 1048576 < b.view) (g3 : ¬ b.seq < 0) (g4 : 1073741824 < b.seq) :
    Calls Tryz.prog 42 #[b.val (.slice p b.list.length c)] w fun e w' => e = .returned (.int .i64 14) ∧ Below w.heap.size w w' := by
  unfold maxLen at h1 h2
  have kd0 : decide (b.kind < 1) = false := by simpa using k0
  have kd1 : decide (13 < b.kind) = false := by simpa using k1
  have d1 : decide (b.view < 0) = false := by simpa using g1
  have d2 : decide (1048576 < b.view) = false := by simpa using g2
  have d3 : decide (b.seq < 0) = false := by simpa using g3
  have d4 : decide (1073741824 < b.seq) = true := by simpa using g4
  clear k0 k1 g1 g2 g3 g4
  unfold Bd.val
  go_enter Tryz.func42, Tryz.ntmps42
  go_wp2
  go_ret
  exact ⟨rfl, by go_grown⟩

set_option maxRecDepth 100000 in
set_option maxHeartbeats 1000000 in
theorem rightRef_b5 (b : Bd) (p : Option Addr) (c : Nat) (w : World) (k0 : ¬ b.kind < 1) (k1 : ¬ 13 < b.kind) (h1 : b.digest.size ≤ maxLen) (h2 : b.text.size ≤ maxLen) (h3 : b.list.length < 9223372036854775807) (g1 : ¬ b.view < 0) (g2 : ¬ 1048576 < b.view) (g3 : ¬ b.seq < 0) (g4 : ¬ 1073741824 < b.seq) (g5 : b.client < 0) :
    Calls Tryz.prog 42 #[b.val (.slice p b.list.length c)] w fun e w' => e = .returned (.int .i64 14) ∧ Below w.heap.size w w' := by
  unfold maxLen at h1 h2
  have kd0 : decide (b.kind < 1) = false := by simpa using k0
  have kd1 : decide (13 < b.kind) = false := by simpa using k1
  have d1 : decide (b.view < 0) = false := by simpa using g1
  have d2 : decide (1048576 < b.view) = false := by simpa using g2
  have d3 : decide (b.seq < 0) = false := by simpa using g3
  have d4 : decide (1073741824 < b.seq) = false := by simpa using g4
  have d5 : decide (b.client < 0) = true := by simpa using g5
  clear k0 k1 g1 g2 g3 g4 g5
  unfold Bd.val
  go_enter Tryz.func42, Tryz.ntmps42
  go_wp2
  go_ret
  exact ⟨rfl, by go_grown⟩

set_option maxRecDepth 100000 in
set_option maxHeartbeats 1000000 in
theorem rightRef_b6 (b : Bd) (p : Option Addr) (c : Nat) (w : World) (k0 : ¬ b.kind < 1) (k1 : ¬ 13 < b.kind) (h1 : b.digest.size ≤ maxLen) (h2 : b.text.size ≤ maxLen) (h3 : b.list.length < 9223372036854775807) (g1 : ¬ b.view < 0) (g2 : ¬ 1048576 < b.view) (g3 : ¬ b.seq < 0) (g4 : ¬ 1073741824 < b.seq) (g5 : ¬ b.client < 0) (g6 : 15 < b.client) :
    Calls Tryz.prog 42 #[b.val (.slice p b.list.length c)] w fun e w' => e = .returned (.int .i64 14) ∧ Below w.heap.size w w' := by
  unfold maxLen at h1 h2
  have kd0 : decide (b.kind < 1) = false := by simpa using k0
  have kd1 : decide (13 < b.kind) = false := by simpa using k1
  have d1 : decide (b.view < 0) = false := by simpa using g1
  have d2 : decide (1048576 < b.view) = false := by simpa using g2
  have d3 : decide (b.seq < 0) = false := by simpa using g3
  have d4 : decide (1073741824 < b.seq) = false := by simpa using g4
  have d5 : decide (b.client < 0) = false := by simpa using g5
  have d6 : decide (15 < b.client) = true := by simpa using g6
  clear k0 k1 g1 g2 g3 g4 g5 g6
  unfold Bd.val
  go_enter Tryz.func42, Tryz.ntmps42
  go_wp2
  go_ret
  exact ⟨rfl, by go_grown⟩

set_option maxRecDepth 100000 in
set_option maxHeartbeats 1000000 in
theorem rightRef_b7 (b : Bd) (p : Option Addr) (c : Nat) (w : World) (k0 : ¬ b.kind < 1) (k1 : ¬ 13 < b.kind) (h1 : b.digest.size ≤ maxLen) (h2 : b.text.size ≤ maxLen) (h3 : b.list.length < 9223372036854775807) (g1 : ¬ b.view < 0) (g2 : ¬ 1048576 < b.view) (g3 : ¬ b.seq < 0) (g4 : ¬ 1073741824 < b.seq) (g5 : ¬ b.client < 0) (g6 : ¬ 15 < b.client) (g7 : b.stamp < 0) :
    Calls Tryz.prog 42 #[b.val (.slice p b.list.length c)] w fun e w' => e = .returned (.int .i64 14) ∧ Below w.heap.size w w' := by
  unfold maxLen at h1 h2
  have kd0 : decide (b.kind < 1) = false := by simpa using k0
  have kd1 : decide (13 < b.kind) = false := by simpa using k1
  have d1 : decide (b.view < 0) = false := by simpa using g1
  have d2 : decide (1048576 < b.view) = false := by simpa using g2
  have d3 : decide (b.seq < 0) = false := by simpa using g3
  have d4 : decide (1073741824 < b.seq) = false := by simpa using g4
  have d5 : decide (b.client < 0) = false := by simpa using g5
  have d6 : decide (15 < b.client) = false := by simpa using g6
  have d7 : decide (b.stamp < 0) = true := by simpa using g7
  clear k0 k1 g1 g2 g3 g4 g5 g6 g7
  unfold Bd.val
  go_enter Tryz.func42, Tryz.ntmps42
  go_wp2
  go_ret
  exact ⟨rfl, by go_grown⟩

set_option maxRecDepth 100000 in
set_option maxHeartbeats 1000000 in
theorem rightRef_b8 (b : Bd) (p : Option Addr) (c : Nat) (w : World) (k0 : ¬ b.kind < 1) (k1 : ¬ 13 < b.kind) (h1 : b.digest.size ≤ maxLen) (h2 : b.text.size ≤ maxLen) (h3 : b.list.length < 9223372036854775807) (g1 : ¬ b.view < 0) (g2 : ¬ 1048576 < b.view) (g3 : ¬ b.seq < 0) (g4 : ¬ 1073741824 < b.seq) (g5 : ¬ b.client < 0) (g6 : ¬ 15 < b.client) (g7 : ¬ b.stamp < 0) (g8 : 1099511627776 < b.stamp) :
    Calls Tryz.prog 42 #[b.val (.slice p b.list.length c)] w fun e w' => e = .returned (.int .i64 14) ∧ Below w.heap.size w w' := by
  unfold maxLen at h1 h2
  have kd0 : decide (b.kind < 1) = false := by simpa using k0
  have kd1 : decide (13 < b.kind) = false := by simpa using k1
  have d1 : decide (b.view < 0) = false := by simpa using g1
  have d2 : decide (1048576 < b.view) = false := by simpa using g2
  have d3 : decide (b.seq < 0) = false := by simpa using g3
  have d4 : decide (1073741824 < b.seq) = false := by simpa using g4
  have d5 : decide (b.client < 0) = false := by simpa using g5
  have d6 : decide (15 < b.client) = false := by simpa using g6
  have d7 : decide (b.stamp < 0) = false := by simpa using g7
  have d8 : decide (1099511627776 < b.stamp) = true := by simpa using g8
  clear k0 k1 g1 g2 g3 g4 g5 g6 g7 g8
  unfold Bd.val
  go_enter Tryz.func42, Tryz.ntmps42
  go_wp2
  go_ret
  exact ⟨rfl, by go_grown⟩

set_option maxRecDepth 100000 in
set_option maxHeartbeats 1000000 in
theorem rightRef_b9 (b : Bd) (p : Option Addr) (c : Nat) (w : World) (k0 : ¬ b.kind < 1) (k1 : ¬ 13 < b.kind) (h1 : b.digest.size ≤ maxLen) (h2 : b.text.size ≤ maxLen) (h3 : b.list.length < 9223372036854775807) (g1 : ¬ b.view < 0) (g2 : ¬ 1048576 < b.view) (g3 : ¬ b.seq < 0) (g4 : ¬ 1073741824 < b.seq) (g5 : ¬ b.client < 0) (g6 : ¬ 15 < b.client) (g7 : ¬ b.stamp < 0) (g8 : ¬ 1099511627776 < b.stamp) (g9 : (32 : Int) < (b.digest.size : Int)) :
    Calls Tryz.prog 42 #[b.val (.slice p b.list.length c)] w fun e w' => e = .returned (.int .i64 14) ∧ Below w.heap.size w w' := by
  unfold maxLen at h1 h2
  have kd0 : decide (b.kind < 1) = false := by simpa using k0
  have kd1 : decide (13 < b.kind) = false := by simpa using k1
  have d1 : decide (b.view < 0) = false := by simpa using g1
  have d2 : decide (1048576 < b.view) = false := by simpa using g2
  have d3 : decide (b.seq < 0) = false := by simpa using g3
  have d4 : decide (1073741824 < b.seq) = false := by simpa using g4
  have d5 : decide (b.client < 0) = false := by simpa using g5
  have d6 : decide (15 < b.client) = false := by simpa using g6
  have d7 : decide (b.stamp < 0) = false := by simpa using g7
  have d8 : decide (1099511627776 < b.stamp) = false := by simpa using g8
  have d9 : decide ((32 : Int) < (b.digest.size : Int)) = true := by simpa using g9
  clear k0 k1 g1 g2 g3 g4 g5 g6 g7 g8 g9
  unfold Bd.val
  go_enter Tryz.func42, Tryz.ntmps42
  go_wp2
  go_ret
  exact ⟨rfl, by go_grown⟩

set_option maxRecDepth 100000 in
set_option maxHeartbeats 1000000 in
theorem rightRef_b10 (b : Bd) (p : Option Addr) (c : Nat) (w : World) (k0 : ¬ b.kind < 1) (k1 : ¬ 13 < b.kind) (h1 : b.digest.size ≤ maxLen) (h2 : b.text.size ≤ maxLen) (h3 : b.list.length < 9223372036854775807) (g1 : ¬ b.view < 0) (g2 : ¬ 1048576 < b.view) (g3 : ¬ b.seq < 0) (g4 : ¬ 1073741824 < b.seq) (g5 : ¬ b.client < 0) (g6 : ¬ 15 < b.client) (g7 : ¬ b.stamp < 0) (g8 : ¬ 1099511627776 < b.stamp) (g9 : ¬ (32 : Int) < (b.digest.size : Int)) (g10 : (1048576 : Int) < (b.text.size : Int)) :
    Calls Tryz.prog 42 #[b.val (.slice p b.list.length c)] w fun e w' => e = .returned (.int .i64 14) ∧ Below w.heap.size w w' := by
  unfold maxLen at h1 h2
  have kd0 : decide (b.kind < 1) = false := by simpa using k0
  have kd1 : decide (13 < b.kind) = false := by simpa using k1
  have d1 : decide (b.view < 0) = false := by simpa using g1
  have d2 : decide (1048576 < b.view) = false := by simpa using g2
  have d3 : decide (b.seq < 0) = false := by simpa using g3
  have d4 : decide (1073741824 < b.seq) = false := by simpa using g4
  have d5 : decide (b.client < 0) = false := by simpa using g5
  have d6 : decide (15 < b.client) = false := by simpa using g6
  have d7 : decide (b.stamp < 0) = false := by simpa using g7
  have d8 : decide (1099511627776 < b.stamp) = false := by simpa using g8
  have d9 : decide ((32 : Int) < (b.digest.size : Int)) = false := by simpa using g9
  have d10 : decide ((1048576 : Int) < (b.text.size : Int)) = true := by simpa using g10
  clear k0 k1 g1 g2 g3 g4 g5 g6 g7 g8 g9 g10
  unfold Bd.val
  go_enter Tryz.func42, Tryz.ntmps42
  go_wp2
  go_ret
  exact ⟨rfl, by go_grown⟩

set_option maxRecDepth 100000 in
set_option maxHeartbeats 1000000 in
theorem rightRef_b11 (b : Bd) (p : Option Addr) (c : Nat) (w : World) (k0 : ¬ b.kind < 1) (k1 : ¬ 13 < b.kind) (h1 : b.digest.size ≤ maxLen) (h2 : b.text.size ≤ maxLen) (h3 : b.list.length < 9223372036854775807) (g1 : ¬ b.view < 0) (g2 : ¬ 1048576 < b.view) (g3 : ¬ b.seq < 0) (g4 : ¬ 1073741824 < b.seq) (g5 : ¬ b.client < 0) (g6 : ¬ 15 < b.client) (g7 : ¬ b.stamp < 0) (g8 : ¬ 1099511627776 < b.stamp) (g9 : ¬ (32 : Int) < (b.digest.size : Int)) (g10 : ¬ (1048576 : Int) < (b.text.size : Int)) (g11 : (64 : Int) < (b.list.length : Int)) :
    Calls Tryz.prog 42 #[b.val (.slice p b.list.length c)] w fun e w' => e = .returned (.int .i64 14) ∧ Below w.heap.size w w' := by
  unfold maxLen at h1 h2
  have kd0 : decide (b.kind < 1) = false := by simpa using k0
  have kd1 : decide (13 < b.kind) = false := by simpa using k1
  have d1 : decide (b.view < 0) = false := by simpa using g1
  have d2 : decide (1048576 < b.view) = false := by simpa using g2
  have d3 : decide (b.seq < 0) = false := by simpa using g3
  have d4 : decide (1073741824 < b.seq) = false := by simpa using g4
  have d5 : decide (b.client < 0) = false := by simpa using g5
  have d6 : decide (15 < b.client) = false := by simpa using g6
  have d7 : decide (b.stamp < 0) = false := by simpa using g7
  have d8 : decide (1099511627776 < b.stamp) = false := by simpa using g8
  have d9 : decide ((32 : Int) < (b.digest.size : Int)) = false := by simpa using g9
  have d10 : decide ((1048576 : Int) < (b.text.size : Int)) = false := by simpa using g10
  have d11 : decide ((64 : Int) < (b.list.length : Int)) = true := by simpa using g11
  clear k0 k1 g1 g2 g3 g4 g5 g6 g7 g8 g9 g10 g11
  unfold Bd.val
  go_enter Tryz.func42, Tryz.ntmps42
  go_wp2
  go_ret
  exact ⟨rfl, by go_grown⟩

set_option maxRecDepth 100000 in
set_option maxHeartbeats 1000000 in
theorem rightRef_b12 (b : Bd) (p : Option Addr) (c : Nat) (w : World) (k0 : ¬ b.kind < 1) (k1 : ¬ 13 < b.kind) (h1 : b.digest.size ≤ maxLen) (h2 : b.text.size ≤ maxLen) (g1 : ¬ b.view < 0) (g2 : ¬ 1048576 < b.view) (g3 : ¬ b.seq < 0) (g4 : ¬ 1073741824 < b.seq) (g5 : ¬ b.client < 0) (g6 : ¬ 15 < b.client) (g7 : ¬ b.stamp < 0) (g8 : ¬ 1099511627776 < b.stamp) (g9 : ¬ (32 : Int) < (b.digest.size : Int)) (g10 : ¬ (1048576 : Int) < (b.text.size : Int)) (g11 : ¬ (64 : Int) < (b.list.length : Int)) (h3 : b.list.length < 9223372036854775807) (hl : Sgs w (.slice p b.list.length c) b.list) (ha : b.list.all sgOk = false) :
    Calls Tryz.prog 42 #[b.val (.slice p b.list.length c)] w fun e w' => e = .returned (.int .i64 14) ∧ Below w.heap.size w w' := by
  unfold maxLen at h1 h2
  have kd0 : decide (b.kind < 1) = false := by simpa using k0
  have kd1 : decide (13 < b.kind) = false := by simpa using k1
  have d1 : decide (b.view < 0) = false := by simpa using g1
  have d2 : decide (1048576 < b.view) = false := by simpa using g2
  have d3 : decide (b.seq < 0) = false := by simpa using g3
  have d4 : decide (1073741824 < b.seq) = false := by simpa using g4
  have d5 : decide (b.client < 0) = false := by simpa using g5
  have d6 : decide (15 < b.client) = false := by simpa using g6
  have d7 : decide (b.stamp < 0) = false := by simpa using g7
  have d8 : decide (1099511627776 < b.stamp) = false := by simpa using g8
  have d9 : decide ((32 : Int) < (b.digest.size : Int)) = false := by simpa using g9
  have d10 : decide ((1048576 : Int) < (b.text.size : Int)) = false := by simpa using g10
  have d11 : decide ((64 : Int) < (b.list.length : Int)) = false := by simpa using g11
  clear k0 k1 g1 g2 g3 g4 g5 g6 g7 g8 g9 g10 g11
  have hnot : ∀ (x : Bool) (w : World), (Op.unary .not (.bool x)).run Tryz.prog w = .ok (.bool (!x)) w := fun _ _ => rfl
  have hfa := fun wx (hb : Below w.heap.size w wx) => fitAll_ref (.slice p b.list.length c) b.list wx (hl.below hb) h3
  rw [ha] at hfa
  have HFA : Hid _ := hfa
  clear hfa hl ha
  unfold Bd.val
  go_enter Tryz.func42, Tryz.ntmps42
  go_wp2_with fail
  refine (HFA.out _ (by go_grown)).mono ?_
  rintro e w1 ⟨rfl, b1⟩
  have B1 : Below w.heap.size w w1 := (show Below w.heap.size w _ by go_grown).trans (b1.mono (by simp))
  go_wp2
  go_ret
  exact ⟨rfl, B1⟩

theorem right_none {b : Bd} (h : ¬ (1 ≤ b.kind ∧ b.kind ≤ 13)) : right b = 13 := by
  unfold right; rw [shape_other _ h]

theorem rightRef_calls (b : Bd) (lv : Value) (w : World) (h1 : b.digest.size ≤ maxLen) (h2 : b.text.size ≤ maxLen) (h3 : b.list.length < 9223372036854775807) (hl : Sgs w lv b.list) :
    Calls Tryz.prog 42 #[b.val lv] w fun e w' => e = .returned (.int .i64 (right b)) ∧ Below w.heap.size w w' := by
  obtain ⟨p, c, rfl⟩ := hl.len
  by_cases k0 : b.kind < 1
  · rw [right_none (by omega)]; exact rightRef_lo b p c w k0
  by_cases k1 : 13 < b.kind
  · rw [right_none (by omega)]; exact rightRef_hi b p c w k0 k1
  have hk : 1 ≤ b.kind ∧ b.kind ≤ 13 := by omega
  by_cases g1 : b.view < 0
  · rw [right_bad hk (fun r => r.v0 g1)]; exact rightRef_b1 b p c w k0 k1 h1 h2 h3 g1
  by_cases g2 : 1048576 < b.view
  · rw [right_bad hk (fun r => r.v1 g2)]; exact rightRef_b2 b p c w k0 k1 h1 h2 h3 g1 g2
  by_cases g3 : b.seq < 0
  · rw [right_bad hk (fun r => r.s0 g3)]; exact rightRef_b3 b p c w k0 k1 h1 h2 h3 g1 g2 g3
  by_cases g4 : 1073741824 < b.seq
  · rw [right_bad hk (fun r => r.s1 g4)]; exact rightRef_b4 b p c w k0 k1 h1 h2 h3 g1 g2 g3 g4
  by_cases g5 : b.client < 0
  · rw [right_bad hk (fun r => r.c0 g5)]; exact rightRef_b5 b p c w k0 k1 h1 h2 h3 g1 g2 g3 g4 g5
  by_cases g6 : 15 < b.client
  · rw [right_bad hk (fun r => r.c1 g6)]; exact rightRef_b6 b p c w k0 k1 h1 h2 h3 g1 g2 g3 g4 g5 g6
  by_cases g7 : b.stamp < 0
  · rw [right_bad hk (fun r => r.t0 g7)]; exact rightRef_b7 b p c w k0 k1 h1 h2 h3 g1 g2 g3 g4 g5 g6 g7
  by_cases g8 : 1099511627776 < b.stamp
  · rw [right_bad hk (fun r => r.t1 g8)]; exact rightRef_b8 b p c w k0 k1 h1 h2 h3 g1 g2 g3 g4 g5 g6 g7 g8
  by_cases g9 : (32 : Int) < (b.digest.size : Int)
  · rw [right_bad hk (fun r => r.d g9)]; exact rightRef_b9 b p c w k0 k1 h1 h2 h3 g1 g2 g3 g4 g5 g6 g7 g8 g9
  by_cases g10 : (1048576 : Int) < (b.text.size : Int)
  · rw [right_bad hk (fun r => r.x g10)]; exact rightRef_b10 b p c w k0 k1 h1 h2 h3 g1 g2 g3 g4 g5 g6 g7 g8 g9 g10
  by_cases g11 : (64 : Int) < (b.list.length : Int)
  · rw [right_bad hk (fun r => r.l g11)]; exact rightRef_b11 b p c w k0 k1 h1 h2 h3 g1 g2 g3 g4 g5 g6 g7 g8 g9 g10 g11
  cases ha : b.list.all sgOk with
  | false => rw [right_bad hk (fun r => by have := r.a; rw [ha] at this; cases this)]; exact rightRef_b12 b p c w k0 k1 h1 h2 g1 g2 g3 g4 g5 g6 g7 g8 g9 g10 g11 h3 hl ha
  | true =>
    have hR : Rg b := ⟨g1, g2, g3, g4, g5, g6, g7, g8, g9, g10, g11, ha⟩
    have hn : b.kind = 1 ∨ b.kind = 2 ∨ b.kind = 3 ∨ b.kind = 4 ∨ b.kind = 5 ∨ b.kind = 6 ∨ b.kind = 7 ∨ b.kind = 8 ∨ b.kind = 9 ∨ b.kind = 10 ∨ b.kind = 11 ∨ b.kind = 12 ∨ b.kind = 13 := by omega
    rcases hn with h | h | h | h | h | h | h | h | h | h | h | h | h
    · exact rightRef_1 b p c w h hR h1 h2 h3 hl
    · exact rightRef_2 b p c w h hR h1 h2 h3 hl
    · exact rightRef_3 b p c w h hR h1 h2 h3 hl
    · exact rightRef_4 b p c w h hR h1 h2 h3 hl
    · exact rightRef_5 b p c w h hR h1 h2 h3 hl
    · exact rightRef_6 b p c w h hR h1 h2 h3 hl
    · exact rightRef_7 b p c w h hR h1 h2 h3 hl
    · exact rightRef_8 b p c w h hR h1 h2 h3 hl
    · exact rightRef_9 b p c w h hR h1 h2 h3 hl
    · exact rightRef_10 b p c w h hR h1 h2 h3 hl
    · exact rightRef_11 b p c w h hR h1 h2 h3 hl
    · exact rightRef_12 b p c w h hR h1 h2 h3 hl
    · exact rightRef_13 b p c w h hR h1 h2 h3 hl
end Go.Proofs.YtocphdikppeijaaGreat

namespace Go.Proofs.YtocphdikppeijaaGreat
open Go.RowKit
set_option linter.unusedVariables false
set_option linter.unusedSimpArgs false


theorem rdText_err {s : ByteArray} {a : Nat} {er : Int} (ha : a ≤ s.size) (h : rdText s a = .error er) : er ≠ 0 := by
  rw [rdText_list s a ha] at h
  cases e : rdTP (s.data.toList.drop a) with
  | error er' => rw [e] at h; simp only [shiftR, Except.error.injEq] at h; subst h; exact nz_text _ _ e
  | ok p => rw [e] at h; cases h

/-- What the document's reading of a message gives. -/
def SgGot (r : Except Int (Sg × Nat)) (e : Ending) : Prop :=
  match r with
  | .ok (m, nx) => e = .returned (.tuple #[m.val, .int .i64 nx, .int .i64 0])
  | .error er => ∃ m : Sg, e = .returned (.tuple #[m.val, .int .i64 0, .int .i64 er])

set_option maxRecDepth 100000 in
set_option maxHeartbeats 2000000 in
theorem signed_ref (s : ByteArray) (a : Nat) (w : World) (hs : s.size ≤ maxLen) (ha : a ≤ s.size) :
    Calls Tryz.prog 37 #[.string s, .int .i64 a] w fun e w' => SgGot (rdSg s a) e ∧ Below w.heap.size w w' := by
  have X0 := blk_new w w.heap.size #[.int .i64 0, .string ⟨#[]⟩, .string ⟨#[]⟩] 49 rfl
  have B0 : Below w.heap.size w (w.alloc (.cells #[.int .i64 0, .string ⟨#[]⟩, .string ⟨#[]⟩] 49)) := (Below.refl _ _).alloc (Nat.le_refl _) _
  have y0 := X0.cell (o := 0) rfl
  have y1 := X0.cell (o := 1) rfl
  have y2 := X0.cell (o := 2) rfl
  have g0 := X0.frozen (o := 0)
  have g1 := X0.frozen (o := 1)
  have g2 := X0.frozen (o := 2)
  have hi := fun wx => int_ref s a wx hs ha
  have HI : Hid _ := hi
  clear hi
  unfold rdSg
  cases h1 : rdInt s a with
  | error er =>
    have hne : (er != 0) = true := by simpa using rdInt_err h1
    rw [h1] at HI
    simp only [got] at HI
    go_enter Tryz.func37, Tryz.ntmps37
    go_wp2_with fail
    refine (HI.out _).mono ?_
    rintro e w1 ⟨rfl, rfl⟩
    go_wp2
    refine bodyPost_ret (v := .tuple #[zeroSgR.val, .int .i64 0, .int .i64 er]) (by simp [results, Tryz.results37, go_sem, zeroSgR, Sg.val]) rfl ⟨⟨zeroSgR, rfl⟩, by go_grown⟩
  | ok p1 =>
    obtain ⟨n, a1⟩ := p1
    have l1 := rdInt_le h1
    rw [h1] at HI
    simp only [got] at HI
    have ht := fun wx => text_ref s a1 wx hs l1.2.1
    have HT : Hid _ := ht
    clear h1 ht
    simp only
    cases h2 : rdText s a1 with
    | error er =>
      have hne : (er != 0) = true := by simpa using rdText_err l1.2.1 h2
      rw [h2] at HT
      simp only [gotT] at HT
      go_enter Tryz.func37, Tryz.ntmps37
      go_wp2_with fail
      refine (HI.out _).mono ?_
      rintro e w1 ⟨rfl, rfl⟩
      go_wp2_with fail
      refine (HT.out _).mono ?_
      rintro e w2 ⟨rfl, rfl⟩
      go_wp2
      refine bodyPost_ret (v := .tuple #[zeroSgR.val, .int .i64 0, .int .i64 er]) (by simp [results, Tryz.results37, go_sem, zeroSgR, Sg.val]) rfl ⟨⟨zeroSgR, rfl⟩, by go_grown⟩
    | ok p2 =>
      obtain ⟨t, a2⟩ := p2
      have l2 := rdText_le h2
      rw [h2] at HT
      simp only [gotT] at HT
      have hu := fun wx => text_ref s a2 wx hs l2.2.1
      have HU : Hid _ := hu
      clear h2 hu
      simp only
      cases h3 : rdText s a2 with
      | error er =>
        rw [h3] at HU
        simp only [gotT] at HU
        go_enter Tryz.func37, Tryz.ntmps37
        go_wp2_with fail
        refine (HI.out _).mono ?_
        rintro e w1 ⟨rfl, rfl⟩
        go_wp2_with fail
        refine (HT.out _).mono ?_
        rintro e w2 ⟨rfl, rfl⟩
        go_wp2_with fail
        refine (HU.out _).mono ?_
        rintro e w3 ⟨rfl, rfl⟩
        go_wp2
        refine bodyPost_ret (v := .tuple #[Sg.val ⟨(n : Int), t, ⟨#[]⟩⟩, .int .i64 0, .int .i64 er]) (by simp [results, Tryz.results37, go_sem, Sg.val]) rfl ⟨⟨⟨(n : Int), t, ⟨#[]⟩⟩, rfl⟩, by go_grown⟩
      | ok p3 =>
        obtain ⟨u, a3⟩ := p3
        rw [h3] at HU
        simp only [gotT] at HU
        go_enter Tryz.func37, Tryz.ntmps37
        go_wp2_with fail
        refine (HI.out _).mono ?_
        rintro e w1 ⟨rfl, rfl⟩
        go_wp2_with fail
        refine (HT.out _).mono ?_
        rintro e w2 ⟨rfl, rfl⟩
        go_wp2_with fail
        refine (HU.out _).mono ?_
        rintro e w3 ⟨rfl, rfl⟩
        go_wp2
        refine bodyPost_ret (v := .tuple #[Sg.val ⟨(n : Int), t, u⟩, .int .i64 a3, .int .i64 0]) (by simp [results, Tryz.results37, go_sem, Sg.val]) rfl ⟨rfl, by go_grown⟩

theorem rdSg_err {s : ByteArray} {a : Nat} {er : Int} (ha : a ≤ s.size) (h : rdSg s a = .error er) : er ≠ 0 := by
  rw [rdSg_list s a ha] at h
  cases e : rdSgL (s.data.toList.drop a) with
  | error er' => rw [e] at h; simp only [shiftR, Except.error.injEq] at h; subst h; exact nz_sg _ _ e
  | ok p => rw [e] at h; cases h

theorem below_grownM {b : Nat} {x w w' : World} {row : Option Nat} (h : Below b x w) (hg : w.grownBy w' row) (hr : ∀ k, row = some k → b ≤ k) (hbs : b ≤ w.heap.size) : Below b x w' :=
  ⟨hg.os.trans h.os, hg.tape.trans h.tape, hg.output.trans h.output, Nat.le_trans h.size hg.size, fun k hk => (hg.block k (by omega) (fun e => by have := hr k e.symm; omega)).trans (h.block k hk)⟩

/-- What the document's reading of messages gives. -/
def GotM (r : Except Int (List Sg × Nat)) (w : World) (e : Ending) (w' : World) : Prop :=
  match r with
  | .ok (l, nx) => ∃ v, e = .returned (.tuple #[v, .int .i64 nx, .int .i64 0]) ∧ w'.ownsRow w.heap.size 49 3 v l.length (sgCells l) ∧ Below w.heap.size w w'
  | .error er => e = .returned (.tuple #[.slice none 0 0, .int .i64 0, .int .i64 er]) ∧ Below w.heap.size w w'

set_option maxRecDepth 100000 in
set_option maxHeartbeats 2000000 in
theorem many_ref (s : ByteArray) (a most : Nat) (w : World) (hs : s.size ≤ maxLen) (ha : a ≤ s.size) (hmost : most ≤ 64) :
    Calls Tryz.prog 41 #[.string s, .int .i64 a, .int .i64 most] w (GotM (rdList s a most) w) := by
  obtain ⟨i0, hi, hz0, hz1, hz2⟩ := info_parts infoSigned
  have hint := int_ref s a w hs ha
  cases h1 : rdInt s a with
  | error er =>
    have hne : (er != 0) = true := by simpa using rdInt_err h1
    have hfin : Hid (rdList s a most = .error er) := by show _ = _; unfold rdList rdCount; rw [h1]
    rw [h1] at hint
    simp only [got] at hint
    clear h1
    go_enter Tryz.func41, Tryz.ntmps41
    go_wp2_with fail
    refine hint.mono ?_
    rintro e w1 ⟨rfl, rfl⟩
    go_wp2
    refine bodyPost_ret (v := .tuple #[.slice none 0 0, .int .i64 0, .int .i64 er]) (by simp [results, Tryz.results41, go_sem]) rfl ?_
    rw [hfin.out]
    exact ⟨rfl, Below.refl _ _⟩
  | ok p =>
    obtain ⟨n, a1⟩ := p
    have l1 := rdInt_le h1
    rw [h1] at hint
    simp only [got] at hint
    by_cases hm : most < n
    · have hfin : Hid (rdList s a most = .error 2) := by show _ = _; unfold rdList rdCount; rw [h1]; simp only [hm, if_true]
      have hd : decide ((most : Int) < n) = true := by simp only [decide_eq_true_eq]; omega
      clear h1
      go_enter Tryz.func41, Tryz.ntmps41
      go_wp2_with fail
      refine hint.mono ?_
      rintro e w1 ⟨rfl, rfl⟩
      go_wp2
      refine bodyPost_ret (v := .tuple #[.slice none 0 0, .int .i64 0, .int .i64 2]) (by simp [results, Tryz.results41, go_sem]) rfl ?_
      rw [hfin.out]
      exact ⟨rfl, Below.refl _ _⟩
    · have hfin : Hid (rdList s a most = rdMany s n a1 []) := by show _ = _; unfold rdList rdCount; rw [h1]; simp only [hm, if_false]
      have hd : decide ((most : Int) < n) = false := by simp only [decide_eq_false_iff_not]; omega
      clear h1
      go_enter Tryz.func41, Tryz.ntmps41
      go_wp2_with fail
      refine hint.mono ?_
      rintro e w1 ⟨rfl, rfl⟩
      go_wp2
      go_loopw [1, 11, 12] (fun at' v i wr => ∃ (k a2 : Nat) (l : List Sg), k ≤ n ∧ at' = .int .i64 a2 ∧ i = .int .i64 k ∧ l.length = k ∧ a2 ≤ s.size ∧ Hid (rdList s a most = rdMany s (n - k) a2 l) ∧ wr.ownsRow w1.heap.size 49 3 v k (sgCells l) ∧ Below w1.heap.size w1 wr) (fun _ _ i _ => n - (intOf i).toNat)
      case atStart => exact ⟨0, a1, [], Nat.zero_le _, rfl, rfl, rfl, l1.2.1, hfin, World.ownsRow_nil _ _ _ _, Below.refl _ _⟩
      case round =>
        obtain ⟨k, a2, l, hk, rfl, rfl, hlk, ha2, hR, hown, hb⟩ := hrel
        have hz := hb.size
        by_cases hlt : k < n
        · have hd2 : decide ((k : Int) < n) = true := by simp only [decide_eq_true_eq]; omega
          have hsg := signed_ref s a2 wr hs ha2
          cases h2 : rdSg s a2 with
          | error er =>
            have hne : (er != 0) = true := by simpa using rdSg_err ha2 h2
            have hfin2 : Hid (rdList s a most = .error er) := by
              show _ = _
              rw [hR.out, show n - k = (n - k - 1) + 1 by omega]
              simp only [rdMany, h2]
            rw [h2] at hsg
            clear h2 hR hfin
            go_wp2_with fail
            refine hsg.mono ?_
            rintro e w2 ⟨⟨m, rfl⟩, b2⟩
            unfold Sg.val
            go_wp2
            refine bodyPost_ret (v := .tuple #[.slice none 0 0, .int .i64 0, .int .i64 er]) (by simp [results, Tryz.results41, go_sem]) rfl ?_
            rw [hfin2.out]
            refine ⟨rfl, ?_⟩
            have hb2 := hb.trans (b2.mono hz)
            exact hb2.alloc hb2.size _
          | ok q =>
            obtain ⟨m, a3⟩ := q
            have lm := rdSg_le h2
            have hfin2 : Hid (rdList s a most = rdMany s (n - (k + 1)) a3 (l ++ [m])) := by
              show _ = _
              rw [hR.out, show n - k = (n - (k + 1)) + 1 by omega]
              simp only [rdMany, h2]
            rw [h2] at hsg
            clear h2 hR hfin
            go_wp2_with fail
            refine hsg.mono ?_
            rintro e w2 ⟨rfl, b2⟩
            have hown2 := hown.kept (w' := w2) (row := none) ⟨b2.os, b2.tape, b2.output, b2.size, fun k hk _ => b2.block k hk⟩ (by
              rcases hown.2 with ⟨h, _⟩ | ⟨g, cap, cur, h, _⟩
              · rw [h]; exact Or.inl rfl
              · rw [h]; exact Or.inr (by simp [Value.ownBlock]))
            have hb2 := hb.trans (b2.mono hz)
            have hz2' := b2.size
            have hb3 := hb2.alloc hb2.size (.cells #[.int .i64 m.frm, .string m.body, .string m.sig] 49)
            unfold Sg.val
            have hsz1 : (w2.alloc (.cells #[.int .i64 m.frm, .string m.body, .string m.sig] 49)).heap.size = w2.heap.size + 1 := by simp
            have hb4 := hb3.alloc hb3.size (.cells #[.int .i64 m.frm, .string m.body, .string m.sig] 49)
            go_wp2_with (at_builtin; refine wpList_append_own _ rfl (.tmp 44) (.tmp 46) 52 rfl w1.heap.size 49 i0 (.agg #[.int .i64 0, .string ⟨#[]⟩, .string ⟨#[]⟩]) 3 40 Tryz.underlying52 hi hz0 hz1 hz2 rfl (by decide) _ _ _ rfl ((hown2.alloc _).alloc _) ⟨w2.heap.size + 1, 0, none⟩ 1 1 [.int .i64 m.frm, .string m.body, .string m.sig] rfl rfl ?c1 ?c2 ?c3 ?c4 ?c5 ?_)
            case c1 =>
              intro j u hj
              rw [Addr.add_lit]
              refine (blk_new (w2.alloc (.cells #[.int .i64 m.frm, .string m.body, .string m.sig] 49)) (w2.heap.size + 1) _ _ hsz1.symm).cell ?_
              simpa using hj
            case c2 =>
              intro u hu
              simp at hu
              rcases hu with rfl | rfl | rfl <;> rfl
            case c3 => unfold maxLen; omega
            case c4 => omega
            case c5 => simp; omega
            intro v' w3 hown' hgrow _
            go_wp2
            refine ⟨⟨k + 1, a3, l ++ [m], by omega, rfl, by go_num, by simp; omega, lm.2.1, hfin2, ?_, ?_⟩, by simp [intOf]; omega⟩
            · have e : sgCells (l ++ [m]) = sgCells l ++ [.int .i64 m.frm, .string m.body, .string m.sig] := by simp [sgCells]
              rw [e]; exact hown'
            · exact below_grownM hb4 hgrow (fun k hk => (hown.lt k hk).1) hb4.size
        · have hd2 : decide ((k : Int) < n) = false := by simp only [decide_eq_false_iff_not]; omega
          have hfin2 : Hid (rdList s a most = .ok (l, a2)) := by
            show _ = _
            rw [hR.out, show n - k = 0 by omega]; rfl
          clear hR hfin
          subst hlk
          go_wp2
          refine bodyPost_ret (v := .tuple #[_, .int .i64 a2, .int .i64 0]) (by simp [results, Tryz.results41, go_sem]; rfl) rfl ?_
          rw [hfin2.out]
          exact ⟨_, rfl, hown, hb⟩

theorem rdList_err {s : ByteArray} {a most : Nat} {er : Int} (ha : a ≤ s.size) (h : rdList s a most = .error er) : er ≠ 0 := by
  rw [rdList_list s a most ha] at h
  cases e : cntR rdSgL most (s.data.toList.drop a) with
  | error er' => rw [e] at h; simp only [shiftR, Except.error.injEq] at h; subst h; exact nz_cnt nz_sg most _ _ e
  | ok p => rw [e] at h; cases h

theorem own_belowM {w w' : World} {base : Nat} {v : Value} {l : List Sg} (h : w.ownsRow base 49 3 v l.length (sgCells l)) (b : Below w.heap.size w w') : w'.ownsRow base 49 3 v l.length (sgCells l) :=
  h.kept (w' := w') (row := none) ⟨b.os, b.tape, b.output, b.size, fun k hk _ => b.block k hk⟩ (by
    rcases h.2 with ⟨h, _⟩ | ⟨g, cap, cur, h, _⟩
    · rw [h]; exact Or.inl rfl
    · rw [h]; exact Or.inr (by simp [Value.ownBlock]))

theorem own_len {w : World} {base : Nat} {v : Value} {l : List Sg} (h : w.ownsRow base 49 3 v l.length (sgCells l)) : ∃ p c, v = .slice p l.length c := by
  rcases h.2 with ⟨rfl, h'⟩ | ⟨g, cap, cur, rfl, _⟩
  · rw [h']; exact ⟨none, 0, rfl⟩
  · exact ⟨_, _, rfl⟩

end Go.Proofs.YtocphdikppeijaaGreat

namespace Go.Proofs.YtocphdikppeijaaGreat
open Go.RowKit
set_option linter.unusedVariables false
set_option linter.unusedSimpArgs false

theorem bdOut {wr : World} {k : Nat} {z0 z1 z2 z3 z4 z5 z6 z7 c0 c1 c2 c3 c4 c5 c6 c7 : Value} (Y : Blk wr k #[z0, z1, z2, z3, z4, z5, z6, z7] 54) : ∃ W, ((((((((wr.setCell ⟨k, 0, none⟩ c0).setCell ⟨k, 1, none⟩ c1).setCell ⟨k, 2, none⟩ c2).setCell ⟨k, 3, none⟩ c3).setCell ⟨k, 4, none⟩ c4).setCell ⟨k, 5, none⟩ c5).setCell ⟨k, 6, none⟩ c6).setCell ⟨k, 7, none⟩ c7) = W ∧ Blk W k #[c0, c1, c2, c3, c4, c5, c6, c7] 54 ∧
    (∀ B w0, B ≤ k → Below B w0 wr → Below B w0 W) ∧ (∀ base t z v n xs, k < base → wr.ownsRow base t z v n xs → W.ownsRow base t z v n xs) := by
  refine ⟨_, rfl, ?_, fun B w0 hB h => ?_, fun base t z v n xs hk h => ?_⟩
  · have hy := ((((((((Y.set 0 c0).set 1 c1).set 2 c2).set 3 c3).set 4 c4).set 5 c5).set 6 c6).set 7 c7)
    simpa using hy
  · exact ((((((((h.setCell (p := ⟨k, 0, none⟩) hB _).setCell (p := ⟨k, 1, none⟩) hB _).setCell (p := ⟨k, 2, none⟩) hB _).setCell (p := ⟨k, 3, none⟩) hB _).setCell (p := ⟨k, 4, none⟩) hB _).setCell (p := ⟨k, 5, none⟩) hB _).setCell (p := ⟨k, 6, none⟩) hB _).setCell (p := ⟨k, 7, none⟩) hB _)
  · exact (ownsRow_setCell_below (ownsRow_setCell_below (ownsRow_setCell_below (ownsRow_setCell_below (ownsRow_setCell_below (ownsRow_setCell_below (ownsRow_setCell_below (ownsRow_setCell_below h (a := ⟨k, 0, none⟩) hk _) (a := ⟨k, 1, none⟩) hk _) (a := ⟨k, 2, none⟩) hk _) (a := ⟨k, 3, none⟩) hk _) (a := ⟨k, 4, none⟩) hk _) (a := ⟨k, 5, none⟩) hk _) (a := ⟨k, 6, none⟩) hk _) (a := ⟨k, 7, none⟩) hk _)

abbrev zBody : Obj := .cells #[.int .i64 0, .int .i64 0, .int .i64 0, .int .i64 0, .int .i64 0, .string ⟨#[]⟩, .string ⟨#[]⟩, .slice none 0 0] 54
abbrev zAns (er : Int) : Value := .tuple #[.agg #[.int .i64 0, .int .i64 0, .int .i64 0, .int .i64 0, .int .i64 0, .string ⟨#[]⟩, .string ⟨#[]⟩, .slice none 0 0], .int .i64 er]

set_option maxRecDepth 100000 in
set_option maxHeartbeats 4000000 in
theorem of_ref (s : ByteArray) (w : World) (hs : s.size ≤ maxLen) :
    Calls Tryz.prog 14 #[.string s] w (ReadsO (ofR s) w) := by
  have hs0 := hs
  by_cases hbig : 1048576 < s.size
  · have hfin : Hid (ofR s = .error 4) := by show _ = _; unfold ofR; rw [if_pos hbig]
    have hd : decide ((1048576 : Int) < (s.size : Int)) = true := by simp only [decide_eq_true_eq]; omega
    unfold maxLen at hs
    go_enter Tryz.func14, Tryz.ntmps14
    go_wp2
    refine bodyPost_ret (v := zAns 4) (by simp [results, Tryz.results14, go_sem, zAns]) rfl ?_
    rw [hfin.out]
    exact ⟨rfl, by go_grown⟩
  have hd : decide ((1048576 : Int) < (s.size : Int)) = false := by simp only [decide_eq_false_iff_not]; omega
  go_enter Tryz.func14, Tryz.ntmps14
  go_wp2
  refine wp_loop_rounds 6 ?_
  rw [rounds_succ]
  go_wp2_with fail
  refine (int_ref s 0 _ hs (Nat.zero_le _)).mono ?_
  cases h0 : rdInt s 0 with
  | error er =>
    have hne : (er != 0) = true := by simpa using rdInt_err h0
    have hfin : Hid (ofR s = .error er) := by show _ = _; unfold ofR rdBd; rw [if_neg hbig, h0]
    simp only [got]
    rintro e wx ⟨rfl, rfl⟩
    clear h0
    go_wp2
    refine bodyPost_ret (v := zAns er) (by simp [results, Tryz.results14, go_sem, zAns]) rfl ?_
    rw [hfin.out]
    exact ⟨rfl, by go_grown⟩
  | ok q0 =>
  obtain ⟨n0, a1⟩ := q0
  have l0 := rdInt_le h0
  simp only [got]
  rintro e w0 ⟨rfl, rfl⟩
  go_wp2
  rw [rounds_succ]
  go_wp2_with fail
  refine (int_ref s a1 _ hs l0.2.1).mono ?_
  cases h1 : rdInt s a1 with
  | error er =>
    have hne : (er != 0) = true := by simpa using rdInt_err h1
    have hfin : Hid (ofR s = .error er) := by show _ = _; unfold ofR rdBd; rw [if_neg hbig, h0]; simp only [rdBd1]; rw [h1]
    simp only [got]
    rintro e wx ⟨rfl, rfl⟩
    clear h0 h1
    go_wp2
    refine bodyPost_ret (v := zAns er) (by simp [results, Tryz.results14, go_sem, zAns]) rfl ?_
    rw [hfin.out]
    exact ⟨rfl, by go_grown⟩
  | ok q1 =>
  obtain ⟨n1, a2⟩ := q1
  have l1 := rdInt_le h1
  simp only [got]
  rintro e w1 ⟨rfl, rfl⟩
  go_wp2
  rw [rounds_succ]
  go_wp2_with fail
  refine (int_ref s a2 _ hs l1.2.1).mono ?_
  cases h2 : rdInt s a2 with
  | error er =>
    have hne : (er != 0) = true := by simpa using rdInt_err h2
    have hfin : Hid (ofR s = .error er) := by show _ = _; unfold ofR rdBd; rw [if_neg hbig, h0]; simp only [rdBd1]; rw [h1]; simp only [rdBd2]; rw [h2]
    simp only [got]
    rintro e wx ⟨rfl, rfl⟩
    clear h0 h1 h2
    go_wp2
    refine bodyPost_ret (v := zAns er) (by simp [results, Tryz.results14, go_sem, zAns]) rfl ?_
    rw [hfin.out]
    exact ⟨rfl, by go_grown⟩
  | ok q2 =>
  obtain ⟨n2, a3⟩ := q2
  have l2 := rdInt_le h2
  simp only [got]
  rintro e w2 ⟨rfl, rfl⟩
  go_wp2
  rw [rounds_succ]
  go_wp2_with fail
  refine (int_ref s a3 _ hs l2.2.1).mono ?_
  cases h3 : rdInt s a3 with
  | error er =>
    have hne : (er != 0) = true := by simpa using rdInt_err h3
    have hfin : Hid (ofR s = .error er) := by show _ = _; unfold ofR rdBd; rw [if_neg hbig, h0]; simp only [rdBd1]; rw [h1]; simp only [rdBd2]; rw [h2]; simp only [rdBd3]; rw [h3]
    simp only [got]
    rintro e wx ⟨rfl, rfl⟩
    clear h0 h1 h2 h3
    go_wp2
    refine bodyPost_ret (v := zAns er) (by simp [results, Tryz.results14, go_sem, zAns]) rfl ?_
    rw [hfin.out]
    exact ⟨rfl, by go_grown⟩
  | ok q3 =>
  obtain ⟨n3, a4⟩ := q3
  have l3 := rdInt_le h3
  simp only [got]
  rintro e w3 ⟨rfl, rfl⟩
  go_wp2
  rw [rounds_succ]
  go_wp2_with fail
  refine (int_ref s a4 _ hs l3.2.1).mono ?_
  cases h4 : rdInt s a4 with
  | error er =>
    have hne : (er != 0) = true := by simpa using rdInt_err h4
    have hfin : Hid (ofR s = .error er) := by show _ = _; unfold ofR rdBd; rw [if_neg hbig, h0]; simp only [rdBd1]; rw [h1]; simp only [rdBd2]; rw [h2]; simp only [rdBd3]; rw [h3]; simp only [rdBd4]; rw [h4]
    simp only [got]
    rintro e wx ⟨rfl, rfl⟩
    clear h0 h1 h2 h3 h4
    go_wp2
    refine bodyPost_ret (v := zAns er) (by simp [results, Tryz.results14, go_sem, zAns]) rfl ?_
    rw [hfin.out]
    exact ⟨rfl, by go_grown⟩
  | ok q4 =>
  obtain ⟨n4, a5⟩ := q4
  have l4 := rdInt_le h4
  simp only [got]
  rintro e w4 ⟨rfl, rfl⟩
  go_wp2
  rw [rounds_succ]
  go_wp2_with fail
  refine (text_ref s a5 _ hs l4.2.1).mono ?_
  cases h5 : rdText s a5 with
  | error er =>
    have hne : (er != 0) = true := by simpa using rdText_err l4.2.1 h5
    have hfin : Hid (ofR s = .error er) := by show _ = _; unfold ofR rdBd; rw [if_neg hbig, h0]; simp only [rdBd1]; rw [h1]; simp only [rdBd2]; rw [h2]; simp only [rdBd3]; rw [h3]; simp only [rdBd4]; rw [h4]; simp only [rdBd5]; rw [h5]
    simp only [gotT]
    rintro e wx ⟨rfl, rfl⟩
    clear h0 h1 h2 h3 h4 h5
    go_wp2
    refine bodyPost_ret (v := zAns er) (by simp [results, Tryz.results14, go_sem, zAns]) rfl ?_
    rw [hfin.out]
    exact ⟨rfl, by go_grown⟩
  | ok q5 =>
  obtain ⟨d, a6⟩ := q5
  have l5 := rdText_le h5
  simp only [gotT]
  rintro e w5 ⟨rfl, rfl⟩
  go_wp2_with fail
  refine (text_ref s a6 _ hs l5.2.1).mono ?_
  cases h6 : rdText s a6 with
  | error er =>
    have hne : (er != 0) = true := by simpa using rdText_err l5.2.1 h6
    have hfin : Hid (ofR s = .error er) := by show _ = _; unfold ofR rdBd; rw [if_neg hbig, h0]; simp only [rdBd1]; rw [h1]; simp only [rdBd2]; rw [h2]; simp only [rdBd3]; rw [h3]; simp only [rdBd4]; rw [h4]; simp only [rdBd5]; rw [h5]; simp only [rdBd6]; rw [h6]
    simp only [gotT]
    rintro e wx ⟨rfl, rfl⟩
    clear h0 h1 h2 h3 h4 h5 h6
    go_wp2
    refine bodyPost_ret (v := zAns er) (by simp [results, Tryz.results14, go_sem, zAns]) rfl ?_
    rw [hfin.out]
    exact ⟨rfl, by go_grown⟩
  | ok q6 =>
  obtain ⟨t, a7⟩ := q6
  have l6 := rdText_le h6
  simp only [gotT]
  rintro e w6 ⟨rfl, rfl⟩
  have Y0 := (blk_new w w.heap.size #[.int .i64 0, .int .i64 0, .int .i64 0, .int .i64 0, .int .i64 0, .string ⟨#[]⟩, .string ⟨#[]⟩, .slice none 0 0] 54 rfl).alloc (.cells #[.int .i64 n0, .int .i64 n1, .int .i64 n2, .int .i64 n3, .int .i64 n4] 99)
  have N0 := blk_new (w.alloc zBody) (w.heap.size + 1) #[.int .i64 n0, .int .i64 n1, .int .i64 n2, .int .i64 n3, .int .i64 n4] 99 (by simp)
  have B0 : Below w.heap.size w ((w.alloc zBody).alloc (.cells #[.int .i64 n0, .int .i64 n1, .int .i64 n2, .int .i64 n3, .int .i64 n4] 99)) := by go_grown
  have hmany := many_ref s a7 64 ((w.alloc zBody).alloc (.cells #[.int .i64 n0, .int .i64 n1, .int .i64 n2, .int .i64 n3, .int .i64 n4] 99)) hs l6.2.1 (by omega)
  go_wp2_with fail
  refine hmany.mono ?_
  clear hmany
  cases h7 : rdList s a7 64 with
  | error er =>
    have hne : (er != 0) = true := by simpa using rdList_err l6.2.1 h7
    have hfin : Hid (ofR s = .error er) := by show _ = _; unfold ofR rdBd; rw [if_neg hbig, h0]; simp only [rdBd1]; rw [h1]; simp only [rdBd2]; rw [h2]; simp only [rdBd3]; rw [h3]; simp only [rdBd4]; rw [h4]; simp only [rdBd5]; rw [h5]; simp only [rdBd6]; rw [h6]; simp only [rdBd7]; rw [h7]
    rintro e w7 ⟨rfl, b7⟩
    have Y7 := Y0.below b7
    have B7 := B0.trans (b7.mono B0.size)
    clear h0 h1 h2 h3 h4 h5 h6 h7
    have y0 := Y7.cell (o := 0) rfl
    have g0 := Y7.frozen (o := 0)
    have y1 := Y7.cell (o := 1) rfl
    have g1 := Y7.frozen (o := 1)
    have y2 := Y7.cell (o := 2) rfl
    have g2 := Y7.frozen (o := 2)
    have y3 := Y7.cell (o := 3) rfl
    have g3 := Y7.frozen (o := 3)
    have y4 := Y7.cell (o := 4) rfl
    have g4 := Y7.frozen (o := 4)
    have y5 := Y7.cell (o := 5) rfl
    have g5 := Y7.frozen (o := 5)
    have y6 := Y7.cell (o := 6) rfl
    have g6 := Y7.frozen (o := 6)
    have y7 := Y7.cell (o := 7) rfl
    have g7 := Y7.frozen (o := 7)
    go_wp2
    obtain ⟨W, hW, YW, hBW, _⟩ := bdOut (c0 := .int .i64 0) (c1 := .int .i64 0) (c2 := .int .i64 0) (c3 := .int .i64 0) (c4 := .int .i64 0) (c5 := .string ⟨#[]⟩) (c6 := .string ⟨#[]⟩) (c7 := .slice none 0 0) Y7
    rw [hW]
    have z0 := YW.cell (o := 0) rfl
    have z1 := YW.cell (o := 1) rfl
    have z2 := YW.cell (o := 2) rfl
    have z3 := YW.cell (o := 3) rfl
    have z4 := YW.cell (o := 4) rfl
    have z5 := YW.cell (o := 5) rfl
    have z6 := YW.cell (o := 6) rfl
    have z7 := YW.cell (o := 7) rfl
    refine bodyPost_ret (v := zAns er) (by simp only [results, Tryz.results14]; simp [go_sem, zAns, z0, z1, z2, z3, z4, z5, z6, z7]) rfl ?_
    rw [hfin.out]
    exact ⟨rfl, hBW _ _ (Nat.le_refl _) B7⟩
  | ok q7 =>
  obtain ⟨l, a8⟩ := q7
  have l7 := rdList_le h7
  have hof : Hid (ofR s = if a8 < s.size then .error 12 else if right ⟨n0, n1, n2, n3, n4, d, t, l⟩ = 0 then .ok ⟨n0, n1, n2, n3, n4, d, t, l⟩ else .error (right ⟨n0, n1, n2, n3, n4, d, t, l⟩)) := by show _ = _; unfold ofR rdBd; rw [if_neg hbig, h0]; simp only [rdBd1]; rw [h1]; simp only [rdBd2]; rw [h2]; simp only [rdBd3]; rw [h3]; simp only [rdBd4]; rw [h4]; simp only [rdBd5]; rw [h5]; simp only [rdBd6]; rw [h6]; simp only [rdBd7]; rw [h7]
  clear h0 h1 h2 h3 h4 h5 h6 h7
  rintro e w7 ⟨lv, rfl, own7, b7⟩
  obtain ⟨pl, cl, rfl⟩ := own_len own7
  have Y7 := Y0.below b7
  have N7 := N0.below b7
  have B7 := B0.trans (b7.mono B0.size)
  have hz7 := b7.size
  simp at hz7
  by_cases htail : a8 < s.size
  · have hdt : decide ((a8 : Int) < (s.size : Int)) = true := by simp only [decide_eq_true_eq]; omega
    have hfin : Hid (ofR s = .error 12) := by show _ = _; rw [hof.out, if_pos htail]
    have y0 := Y7.cell (o := 0) rfl
    have g0 := Y7.frozen (o := 0)
    have y1 := Y7.cell (o := 1) rfl
    have g1 := Y7.frozen (o := 1)
    have y2 := Y7.cell (o := 2) rfl
    have g2 := Y7.frozen (o := 2)
    have y3 := Y7.cell (o := 3) rfl
    have g3 := Y7.frozen (o := 3)
    have y4 := Y7.cell (o := 4) rfl
    have g4 := Y7.frozen (o := 4)
    have y5 := Y7.cell (o := 5) rfl
    have g5 := Y7.frozen (o := 5)
    have y6 := Y7.cell (o := 6) rfl
    have g6 := Y7.frozen (o := 6)
    have y7 := Y7.cell (o := 7) rfl
    have g7 := Y7.frozen (o := 7)
    go_wp2
    obtain ⟨W, hW, YW, hBW, _⟩ := bdOut (c0 := .int .i64 0) (c1 := .int .i64 0) (c2 := .int .i64 0) (c3 := .int .i64 0) (c4 := .int .i64 0) (c5 := .string ⟨#[]⟩) (c6 := .string ⟨#[]⟩) (c7 := .slice none 0 0) Y7
    rw [hW]
    have z0 := YW.cell (o := 0) rfl
    have z1 := YW.cell (o := 1) rfl
    have z2 := YW.cell (o := 2) rfl
    have z3 := YW.cell (o := 3) rfl
    have z4 := YW.cell (o := 4) rfl
    have z5 := YW.cell (o := 5) rfl
    have z6 := YW.cell (o := 6) rfl
    have z7 := YW.cell (o := 7) rfl
    refine bodyPost_ret (v := zAns 12) (by simp only [results, Tryz.results14]; simp [go_sem, zAns, z0, z1, z2, z3, z4, z5, z6, z7]) rfl ?_
    rw [hfin.out]
    exact ⟨rfl, hBW _ _ (Nat.le_refl _) B7⟩
  have hdt : decide ((a8 : Int) < (s.size : Int)) = false := by simp only [decide_eq_false_iff_not]; omega
  have m0 := N7.cell (o := 0) rfl
  have m1 := N7.cell (o := 1) rfl
  have m2 := N7.cell (o := 2) rfl
  have m3 := N7.cell (o := 3) rfl
  have m4 := N7.cell (o := 4) rfl
  have hsg := sgs_of_own own7 (fun m hm => ⟨Nat.le_trans (l7.2.2.2 m hm).1 (by unfold maxLen; decide), Nat.le_trans (l7.2.2.2 m hm).2 (by unfold maxLen; decide)⟩)
  have hrr := rightRef_calls ⟨n0, n1, n2, n3, n4, d, t, l⟩ (.slice pl l.length cl) (w7.alloc (.cells #[.int .i64 n0, .int .i64 n1, .int .i64 n2, .int .i64 n3, .int .i64 n4, .string d, .string t, .slice pl l.length cl] 54)) (Nat.le_trans l5.2.2 (by unfold maxLen; decide)) (Nat.le_trans l6.2.2 (by unfold maxLen; decide)) (by simp only; omega) (hsg.below ((Below.refl _ _).alloc (Nat.le_refl _) _))
  unfold Bd.val at hrr
  simp only at hrr
  have HRR : Hid _ := hrr
  have X8 := blk_new w7 w7.heap.size #[.int .i64 n0, .int .i64 n1, .int .i64 n2, .int .i64 n3, .int .i64 n4, .string d, .string t, .slice pl l.length cl] 54 rfl
  have Y8 := Y7.alloc (.cells #[.int .i64 n0, .int .i64 n1, .int .i64 n2, .int .i64 n3, .int .i64 n4, .string d, .string t, .slice pl l.length cl] 54)
  have B8 := B7.alloc B7.size (.cells #[.int .i64 n0, .int .i64 n1, .int .i64 n2, .int .i64 n3, .int .i64 n4, .string d, .string t, .slice pl l.length cl] 54)
  have own8 := own7.alloc (.cells #[.int .i64 n0, .int .i64 n1, .int .i64 n2, .int .i64 n3, .int .i64 n4, .string d, .string t, .slice pl l.length cl] 54)
  have HO8 : Hid _ := own8
  clear hrr hsg own8 own7
  by_cases hok : right ⟨n0, n1, n2, n3, n4, d, t, l⟩ = 0
  · have hfin : Hid (ofR s = .ok ⟨n0, n1, n2, n3, n4, d, t, l⟩) := by show _ = _; rw [hof.out, if_neg htail, if_pos hok]
    rw [hok] at HRR
    clear hof hok
    go_wp2_with fail
    refine (Calls.mono HRR.out) ?_
    rintro e w9 ⟨rfl, b9⟩
    have X9 := X8.below b9
    have Y9 := Y8.below b9
    have B9 := B8.trans (b9.mono B8.size)
    have own9 := own_belowM HO8.out b9
    have HO9 : Hid _ := own9
    clear own9 HO8 m0 m1 m2 m3 m4
    have x0 := X9.cell (o := 0) rfl
    have x1 := X9.cell (o := 1) rfl
    have x2 := X9.cell (o := 2) rfl
    have x3 := X9.cell (o := 3) rfl
    have x4 := X9.cell (o := 4) rfl
    have x5 := X9.cell (o := 5) rfl
    have x6 := X9.cell (o := 6) rfl
    have x7 := X9.cell (o := 7) rfl
    have y0 := Y9.cell (o := 0) rfl
    have y1 := Y9.cell (o := 1) rfl
    have y2 := Y9.cell (o := 2) rfl
    have y3 := Y9.cell (o := 3) rfl
    have y4 := Y9.cell (o := 4) rfl
    have y5 := Y9.cell (o := 5) rfl
    have y6 := Y9.cell (o := 6) rfl
    have y7 := Y9.cell (o := 7) rfl
    have g0 := Y9.frozen (o := 0)
    have g1 := Y9.frozen (o := 1)
    have g2 := Y9.frozen (o := 2)
    have g3 := Y9.frozen (o := 3)
    have g4 := Y9.frozen (o := 4)
    have g5 := Y9.frozen (o := 5)
    have g6 := Y9.frozen (o := 6)
    have g7 := Y9.frozen (o := 7)
    go_wp2
    obtain ⟨W, hW, YW, hBW, hOW⟩ := bdOut (c0 := .int .i64 n0) (c1 := .int .i64 n1) (c2 := .int .i64 n2) (c3 := .int .i64 n3) (c4 := .int .i64 n4) (c5 := .string d) (c6 := .string t) (c7 := .slice pl l.length cl) Y9
    rw [hW]
    have z0 := YW.cell (o := 0) rfl
    have z1 := YW.cell (o := 1) rfl
    have z2 := YW.cell (o := 2) rfl
    have z3 := YW.cell (o := 3) rfl
    have z4 := YW.cell (o := 4) rfl
    have z5 := YW.cell (o := 5) rfl
    have z6 := YW.cell (o := 6) rfl
    have z7 := YW.cell (o := 7) rfl
    refine bodyPost_ret (v := .tuple #[Bd.val ⟨n0, n1, n2, n3, n4, d, t, l⟩ (.slice pl l.length cl), .int .i64 0]) (by simp only [results, Tryz.results14]; simp [go_sem, Bd.val, z0, z1, z2, z3, z4, z5, z6, z7]) rfl ?_
    rw [hfin.out]
    exact ⟨_, rfl, ownsRow_weak (hOW _ _ _ _ _ _ (by simp; omega) HO9.out) (by simp; omega), hBW _ _ (Nat.le_refl _) B9⟩
  · have hfin : Hid (ofR s = .error (right ⟨n0, n1, n2, n3, n4, d, t, l⟩)) := by show _ = _; rw [hof.out, if_neg htail, if_neg hok]
    have hne : (right ⟨n0, n1, n2, n3, n4, d, t, l⟩ != 0) = true := by simpa using hok
    clear hof hok HO8
    generalize right ⟨n0, n1, n2, n3, n4, d, t, l⟩ = R at *
    go_wp2_with fail
    refine (Calls.mono HRR.out) ?_
    rintro e w9 ⟨rfl, b9⟩
    have Y9 := Y8.below b9
    have B9 := B8.trans (b9.mono B8.size)
    clear m0 m1 m2 m3 m4
    have y0 := Y9.cell (o := 0) rfl
    have y1 := Y9.cell (o := 1) rfl
    have y2 := Y9.cell (o := 2) rfl
    have y3 := Y9.cell (o := 3) rfl
    have y4 := Y9.cell (o := 4) rfl
    have y5 := Y9.cell (o := 5) rfl
    have y6 := Y9.cell (o := 6) rfl
    have y7 := Y9.cell (o := 7) rfl
    have g0 := Y9.frozen (o := 0)
    have g1 := Y9.frozen (o := 1)
    have g2 := Y9.frozen (o := 2)
    have g3 := Y9.frozen (o := 3)
    have g4 := Y9.frozen (o := 4)
    have g5 := Y9.frozen (o := 5)
    have g6 := Y9.frozen (o := 6)
    have g7 := Y9.frozen (o := 7)
    go_wp2
    obtain ⟨W, hW, YW, hBW, _⟩ := bdOut (c0 := .int .i64 0) (c1 := .int .i64 0) (c2 := .int .i64 0) (c3 := .int .i64 0) (c4 := .int .i64 0) (c5 := .string ⟨#[]⟩) (c6 := .string ⟨#[]⟩) (c7 := .slice none 0 0) Y9
    rw [hW]
    have z0 := YW.cell (o := 0) rfl
    have z1 := YW.cell (o := 1) rfl
    have z2 := YW.cell (o := 2) rfl
    have z3 := YW.cell (o := 3) rfl
    have z4 := YW.cell (o := 4) rfl
    have z5 := YW.cell (o := 5) rfl
    have z6 := YW.cell (o := 6) rfl
    have z7 := YW.cell (o := 7) rfl
    refine bodyPost_ret (v := zAns R) (by simp only [results, Tryz.results14]; simp [go_sem, zAns, z0, z1, z2, z3, z4, z5, z6, z7]) rfl ?_
    rw [hfin.out]
    exact ⟨rfl, hBW _ _ (Nat.le_refl _) B9⟩
end Go.Proofs.YtocphdikppeijaaGreat

namespace Go.Proofs.YtocphdikppeijaaGreat
open Go.RowKit
set_option linter.unusedVariables false
set_option linter.unusedSimpArgs false

theorem sgOut0 {w W0 : World} {a0 a1 a2 c0 c1 c2 : Value} (X : Blk W0 w.heap.size #[a0, a1, a2] 49) (B : Below w.heap.size w W0) :
    ∃ W, ((W0.setCell ⟨w.heap.size, 0, none⟩ c0).setCell ⟨w.heap.size, 1, none⟩ c1).setCell ⟨w.heap.size, 2, none⟩ c2 = W ∧ Blk W w.heap.size #[c0, c1, c2] 49 ∧ Below w.heap.size w W := by
  refine ⟨_, rfl, ?_, ((B.setCell (p := ⟨w.heap.size, 0, none⟩) (Nat.le_refl _) _).setCell (p := ⟨w.heap.size, 1, none⟩) (Nat.le_refl _) _).setCell (p := ⟨w.heap.size, 2, none⟩) (Nat.le_refl _) _⟩
  have hx := ((X.set 0 c0).set 1 c1).set 2 c2
  simpa using hx

theorem sgOut {w W0 : World} {d : Obj} {a0 a1 a2 c0 c1 c2 : Value} (X : Blk W0 w.heap.size #[a0, a1, a2] 49) (B : Below w.heap.size w W0) :
    ∃ W, (((W0.setCell ⟨w.heap.size, 0, none⟩ c0).setCell ⟨w.heap.size, 1, none⟩ c1).setCell ⟨w.heap.size, 2, none⟩ c2).alloc d = W ∧ Blk W w.heap.size #[c0, c1, c2] 49 ∧ Below w.heap.size w W := by
  obtain ⟨W, h1, h2, h3⟩ := sgOut0 (c0 := c0) (c1 := c1) (c2 := c2) X B
  exact ⟨_, rfl, by rw [h1]; exact h2.alloc d, by rw [h1]; exact h3.alloc (Nat.le_of_lt h2.lt) d⟩

set_option maxRecDepth 100000 in
set_option maxHeartbeats 2000000 in
theorem ofSigned_ref (s : ByteArray) (w : World) (hs : s.size ≤ maxLen) :
    Calls Tryz.prog 13 #[.string s] w fun e w' => e = .returned (.tuple (sgAns (ofSgR s))) ∧ Below w.heap.size w w' := by
  have hnot : ∀ (x : Bool) (w : World), (Op.unary .not (.bool x)).run Tryz.prog w = .ok (.bool (!x)) w := fun _ _ => rfl
  have hs' := hs
  unfold maxLen at hs'
  by_cases hbig : 2097152 < s.size
  · have hfin : ofSgR s = .error 4 := by unfold ofSgR; rw [if_pos hbig]
    have hd : decide ((2097152 : Int) < (s.size : Int)) = true := by simp only [decide_eq_true_eq]; omega
    rw [hfin]
    go_enter Tryz.func13, Tryz.ntmps13
    go_wp2
    refine bodyPost_ret (v := .tuple #[zeroSgR.val, .int .i64 4]) (by simp [results, Tryz.results13, go_sem, zeroSgR, Sg.val]) rfl ⟨rfl, by go_grown⟩
  · have hd : decide ((2097152 : Int) < (s.size : Int)) = false := by simp only [decide_eq_false_iff_not]; omega
    have hsg := signed_ref s 0 (w.alloc (.cells #[.int .i64 0, .string ⟨#[]⟩, .string ⟨#[]⟩] 49)) hs (Nat.zero_le _)
    have X0 := blk_new w w.heap.size #[.int .i64 0, .string ⟨#[]⟩, .string ⟨#[]⟩] 49 rfl
    cases hr : rdSg s 0 with
    | error er =>
      have hne : (er != 0) = true := by
        have h0 : er ≠ 0 := by
          have := rdSg_list s 0 (Nat.zero_le _)
          rw [hr] at this
          cases e : rdSgL (s.data.toList.drop 0) with
          | error er' => rw [e] at this; simp only [shiftR, Except.error.injEq] at this; subst this; exact nz_sg _ _ e
          | ok p => rw [e] at this; cases this
        simpa using h0
      have hfin : ofSgR s = .error er := by unfold ofSgR; rw [if_neg hbig, hr]
      rw [hfin]
      rw [hr] at hsg
      clear hr hfin
      go_enter Tryz.func13, Tryz.ntmps13
      go_wp2_with fail
      refine hsg.mono ?_
      rintro e w1 ⟨⟨m, rfl⟩, b1⟩
      have X1 := X0.below b1
      have d0 := X1.cell (o := 0) rfl
      have f0 := X1.frozen (o := 0)
      have d1 := X1.cell (o := 1) rfl
      have f1 := X1.frozen (o := 1)
      have d2 := X1.cell (o := 2) rfl
      have f2 := X1.frozen (o := 2)
      have hlt := X1.lt
      have hz := b1.size
      simp at hz
      have hnw : ¬ w.heap.size = w1.heap.size := by omega
      have hb : Below w.heap.size w w1 := (show Below w.heap.size w _ by go_grown).trans (b1.mono (by simp))
      unfold Sg.val
      go_wp2
      obtain ⟨W, hW, XW, BW⟩ := sgOut (c0 := .int .i64 0) (c1 := .string ⟨#[]⟩) (c2 := .string ⟨#[]⟩) (d := .cells #[.int .i64 m.frm, .string m.body, .string m.sig] 49) X1 hb
      rw [hW]
      have z0 := XW.cell (o := 0) rfl
      have z1 := XW.cell (o := 1) rfl
      have z2 := XW.cell (o := 2) rfl
      exact bodyPost_ret (v := .tuple #[zeroSgR.val, .int .i64 er]) (by simp [results, Tryz.results13, go_sem, zeroSgR, Sg.val, z0, z1, z2]) rfl ⟨rfl, BW⟩
    | ok p =>
      obtain ⟨m, nx⟩ := p
      have hle := rdSg_le hr
      rw [hr] at hsg
      by_cases htail : nx < s.size
      · have hfin : ofSgR s = .error 12 := by unfold ofSgR; rw [if_neg hbig, hr]; simp only [htail, if_true]
        have hdt : decide ((nx : Int) < (s.size : Int)) = true := by simp only [decide_eq_true_eq]; omega
        rw [hfin]
        clear hr hfin
        go_enter Tryz.func13, Tryz.ntmps13
        go_wp2_with fail
        refine hsg.mono ?_
        rintro e w1 ⟨rfl, b1⟩
        have X1 := X0.below b1
        have d0 := X1.cell (o := 0) rfl
        have f0 := X1.frozen (o := 0)
        have d1 := X1.cell (o := 1) rfl
        have f1 := X1.frozen (o := 1)
        have d2 := X1.cell (o := 2) rfl
        have f2 := X1.frozen (o := 2)
        have hlt := X1.lt
        have hz := b1.size
        simp at hz
        have hnw : ¬ w.heap.size = w1.heap.size := by omega
        have hb : Below w.heap.size w w1 := (show Below w.heap.size w _ by go_grown).trans (b1.mono (by simp))
        unfold Sg.val
        go_wp2
        obtain ⟨W, hW, XW, BW⟩ := sgOut (c0 := .int .i64 0) (c1 := .string ⟨#[]⟩) (c2 := .string ⟨#[]⟩) (d := .cells #[.int .i64 m.frm, .string m.body, .string m.sig] 49) X1 hb
        rw [hW]
        have z0 := XW.cell (o := 0) rfl
        have z1 := XW.cell (o := 1) rfl
        have z2 := XW.cell (o := 2) rfl
        exact bodyPost_ret (v := .tuple #[zeroSgR.val, .int .i64 12]) (by simp [results, Tryz.results13, go_sem, zeroSgR, Sg.val, z0, z1, z2]) rfl ⟨rfl, BW⟩
      · have hdt : decide ((nx : Int) < (s.size : Int)) = false := by simp only [decide_eq_false_iff_not]; omega
        have hfr := fun wx => fits_ref m wx (Nat.le_trans hle.2.2.1 (by unfold maxLen; decide)) (Nat.le_trans hle.2.2.2.1 (by unfold maxLen; decide))
        have HF : Hid _ := hfr
        clear hfr
        cases hok : sgOk m with
        | false =>
          have hfin : ofSgR s = .error 14 := by unfold ofSgR; rw [if_neg hbig, hr]; simp only [htail, if_false, hok]; rfl
          rw [hfin]
          rw [hok] at HF
          clear hr hfin
          go_enter Tryz.func13, Tryz.ntmps13
          go_wp2_with fail
          refine hsg.mono ?_
          rintro e w1 ⟨rfl, b1⟩
          have X1 := X0.below b1
          have M1 := blk_new w1 w1.heap.size #[.int .i64 m.frm, .string m.body, .string m.sig] 49 rfl
          have hlt := X1.lt
          have X2 := X1.alloc (.cells #[.int .i64 m.frm, .string m.body, .string m.sig] 49)
          have hb : Below w.heap.size w w1 := (show Below w.heap.size w _ by go_grown).trans (b1.mono (by simp))
          have hb2 := hb.alloc (Nat.le_of_lt hlt) (.cells #[.int .i64 m.frm, .string m.body, .string m.sig] 49)
          unfold Sg.val
          go_wp2_with fail
          refine (HF.out _).mono ?_
          rintro e w2 ⟨rfl, b2⟩
          have X3 := X2.below b2
          have d0 := X3.cell (o := 0) rfl
          have f0 := X3.frozen (o := 0)
          have d1 := X3.cell (o := 1) rfl
          have f1 := X3.frozen (o := 1)
          have d2 := X3.cell (o := 2) rfl
          have f2 := X3.frozen (o := 2)
          have hb3 := hb2.trans (b2.mono (by simp; omega))
          go_wp2
          obtain ⟨W, hW, XW, BW⟩ := sgOut0 (c0 := .int .i64 0) (c1 := .string ⟨#[]⟩) (c2 := .string ⟨#[]⟩) X3 hb3
          rw [hW]
          have z0 := XW.cell (o := 0) rfl
          have z1 := XW.cell (o := 1) rfl
          have z2 := XW.cell (o := 2) rfl
          exact bodyPost_ret (v := .tuple #[zeroSgR.val, .int .i64 14]) (by simp [results, Tryz.results13, go_sem, zeroSgR, Sg.val, z0, z1, z2]) rfl ⟨rfl, BW⟩
        | true =>
          have hfin : ofSgR s = .ok m := by unfold ofSgR; rw [if_neg hbig, hr]; simp only [htail, if_false, hok, if_true]
          rw [hfin]
          rw [hok] at HF
          clear hr hfin
          go_enter Tryz.func13, Tryz.ntmps13
          go_wp2_with fail
          refine hsg.mono ?_
          rintro e w1 ⟨rfl, b1⟩
          have X1 := X0.below b1
          have M1 := blk_new w1 w1.heap.size #[.int .i64 m.frm, .string m.body, .string m.sig] 49 rfl
          have hlt := X1.lt
          have X2 := X1.alloc (.cells #[.int .i64 m.frm, .string m.body, .string m.sig] 49)
          have hb : Below w.heap.size w w1 := (show Below w.heap.size w _ by go_grown).trans (b1.mono (by simp))
          have hb2 := hb.alloc (Nat.le_of_lt hlt) (.cells #[.int .i64 m.frm, .string m.body, .string m.sig] 49)
          unfold Sg.val
          go_wp2_with fail
          refine (HF.out _).mono ?_
          rintro e w2 ⟨rfl, b2⟩
          have X3 := X2.below b2
          have M3 := M1.below b2
          have d0 := X3.cell (o := 0) rfl
          have f0 := X3.frozen (o := 0)
          have d1 := X3.cell (o := 1) rfl
          have f1 := X3.frozen (o := 1)
          have d2 := X3.cell (o := 2) rfl
          have f2 := X3.frozen (o := 2)
          have e0 := M3.cell (o := 0) rfl
          have e1 := M3.cell (o := 1) rfl
          have e2 := M3.cell (o := 2) rfl
          have hb3 := hb2.trans (b2.mono (by simp; omega))
          go_wp2
          obtain ⟨W, hW, XW, BW⟩ := sgOut0 (c0 := .int .i64 m.frm) (c1 := .string m.body) (c2 := .string m.sig) X3 hb3
          rw [hW]
          have z0 := XW.cell (o := 0) rfl
          have z1 := XW.cell (o := 1) rfl
          have z2 := XW.cell (o := 2) rfl
          exact bodyPost_ret (v := .tuple #[m.val, .int .i64 0]) (by simp [results, Tryz.results13, go_sem, Sg.val, z0, z1, z2]) rfl ⟨rfl, BW⟩
end Go.Proofs.YtocphdikppeijaaGreat
