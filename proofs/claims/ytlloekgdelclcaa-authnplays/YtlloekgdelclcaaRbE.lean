/- The document's eight bytes of a number. -/
import Derived.Test.YtlloekgdelclcaaAuO
import Derived.Maps.AppendAt
namespace Go.Proofs.Ytlloekgdelclcaa
open Go.RowKit
set_option linter.unusedSimpArgs false
set_option linter.unusedVariables false

def byC (l : List UInt8) : List Value := l.map fun b => .int .u8 (b.toNat : Int)
theorem byC_snoc (l : List UInt8) (b : UInt8) : byC (l ++ [b]) = byC l ++ [.int .u8 (b.toNat : Int)] := by simp [byC]
theorem byC_len (l : List UInt8) : (byC l).length = l.length := by simp [byC]
/-- A number's lowest bytes, the lowest first. -/
def lowL (n k : Nat) : List UInt8 := (List.range k).map fun j => UInt8.ofNat (n / 256 ^ j)
theorem lowL_succ (n k : Nat) : lowL n (k + 1) = lowL n k ++ [UInt8.ofNat (n / 256 ^ k)] := by simp [lowL, List.range_succ]
theorem lowL_len (n k : Nat) : (lowL n k).length = k := by simp [lowL]
theorem lowL_at (n k j : Nat) (h : j < k) : (byC (lowL n k))[j]? = some (.int .u8 ((UInt8.ofNat (n / 256 ^ j)).toNat : Int)) := by simp [byC, lowL, h]
/-- The highest of eight, the highest first. -/
def highL (n k : Nat) : List UInt8 := (lowL n 8).reverse.take k
theorem highL_succ (n k : Nat) (h : k < 8) : highL n (k + 1) = highL n k ++ [UInt8.ofNat (n / 256 ^ (7 - k))] := by
  unfold highL
  have hk : k < (lowL n 8).reverse.length := by rw [List.length_reverse, lowL_len]; exact h
  rw [List.take_succ_eq_append_getElem hk, List.getElem_reverse]
  simp only [lowL_len]
  congr 2
  simp [lowL]
theorem highL_full (n : Nat) : highL n 8 = eightL n := by simp [highL, lowL, eightL, List.range_succ]
theorem highL_len (n k : Nat) (h : k ≤ 8) : (highL n k).length = k := by unfold highL; rw [List.length_take, List.length_reverse, lowL_len]; omega
theorem infoByteR : (Try.prog.info? 5).map (fun i => (i.zero, i.size, i.bytes)) = some (some (.int .u8 0), 1, 1) := by kernel_rfl
theorem wu8R (n : Int) : IntKind.u8.wrap n = n % 256 := by simp [IntKind.wrap, IntKind.bits, IntKind.signed]
theorem byte_of (n k : Nat) : ((n / 256 ^ k : Nat) : Int) % 256 = ((UInt8.ofNat (n / 256 ^ k)).toNat : Int) := by rw [UInt8.toNat_ofNat']; omega

set_option maxHeartbeats 1000000 in
set_option maxRecDepth 100000 in
theorem refEight_calls (n : Nat) (w : World) (hn : n < 2 ^ 62) :
    Calls Try.prog 14 #[.int .i64 n] w fun e w' => e = .returned (.string (eightB n)) ∧ Below w.heap.size w w' := by
  obtain ⟨i0, hi, hz0, hz1, hz3⟩ := info_parts infoByteR
  go_enter Try.func14, Try.ntmps14
  go_wp2_with fail
  go_loopw [0, 3, 4] (fun m o i wr => ∃ k : Nat, k ≤ 8 ∧ i = .int .i64 k ∧ m = .int .i64 ((n / 256 ^ k : Nat) : Int) ∧ wr.ownsRow w.heap.size 5 1 o k (byC (lowL n k)) ∧ Below w.heap.size w wr) (fun _ _ i _ => 8 - (intOf i).toNat)
  case atStart => exact ⟨0, Nat.zero_le _, rfl, by simp, World.ownsRow_nil _ _ _ _, Below.refl _ _⟩
  case round =>
    obtain ⟨k, hk, rfl, rfl, hO, hb⟩ := hrel
    have hzb := hb.size
    by_cases hlt : k < 8
    · have hd : decide ((k : Int) < 8) = true := by simp only [decide_eq_true_eq]; omega
      have hby := byte_of n k
      have hq : ((n / 256 ^ k : Nat) : Int).tdiv 256 = ((n / 256 ^ (k + 1) : Nat) : Int) := by
        have e : n / 256 ^ (k + 1) = n / 256 ^ k / 256 := by rw [Nat.pow_succ, Nat.div_div_eq_div_mul]
        rw [e]; exact (Int.ofNat_tdiv _ 256).symm
      have hle : n / 256 ^ k ≤ n := Nat.div_le_self _ _
      generalize hm : n / 256 ^ k = m at *
      generalize hm2 : n / 256 ^ (k + 1) = m2 at *
      have hr : ((m : Int)).tmod 256 = ((m % 256 : Nat) : Int) := (Int.ofNat_tmod m 256).symm
      have hw8 : IntKind.u8.wrap ((m % 256 : Nat) : Int) = ((UInt8.ofNat m).toNat : Int) := by rw [wu8R, UInt8.toNat_ofNat']; omega
      have hle2 : m2 ≤ n := by rw [← hm2]; exact Nat.div_le_self _ _
      have HK : Hid _ := lowL_succ n k
      rw [hm] at HK
      have HO : Hid _ := hO
      have HM2 : Hid _ := hm2
      clear hO hby hm hm2
      go_wp2_with (at_builtin; refine wpList_append_own _ rfl (.tmp 11) (.tmp 15) 69 rfl w.heap.size 5 i0 (.int .u8 0) 1 1 Try.underlying69 hi hz0 hz1 hz3 rfl (by decide) _ _ _ rfl (World.ownsRow.alloc HO.out _) ⟨wr.heap.size, 0, none⟩ 1 1 [.int .u8 ((UInt8.ofNat m).toNat : Int)] rfl rfl ?c1 ?c2 ?c3 ?c4 ?c5 ?_)
      case c1 => exact cell_one_new _ _ _
      case c2 => intro u hu; simp at hu; subst hu; rfl
      case c3 => unfold maxLen; omega
      case c4 => omega
      case c5 => simp; omega
      intro v' w4 ho' hg' _
      go_wp2_with fail
      refine ⟨⟨k + 1, by omega, by go_num, by rw [HM2.out], ?_, below_grown (hb.alloc (by omega) _) hg' (fun z hz => (World.ownsRow.lt HO.out z hz).1) (by simp; omega)⟩, by simp [intOf]; omega⟩
      rw [HK.out, byC_snoc]; exact ho'
    · have hd : decide ((k : Int) < 8) = false := by simp only [decide_eq_false_iff_not]; omega
      obtain rfl : k = 8 := by omega
      obtain ⟨g, cap, rfl, hgb, hcap, hcc⟩ := own_at hO (by decide)
      have hgl : g < wr.heap.size := (World.ownsRow.lt hO g rfl).2
      have HCC : Hid _ := hcc
      clear hcc hO
      generalize ((n / 256 ^ 8 : Nat) : Int) = m8
      generalize ((8 : Nat) : Int) = e8 at *
      go_wp2_with fail
      rename World => W1
      go_loopw [5, 6] (fun o i wr => ∃ k : Nat, k ≤ 8 ∧ i = .int .i64 (7 - (k : Int)) ∧ wr.ownsRow W1.heap.size 5 1 o k (byC (highL n k)) ∧ Below W1.heap.size W1 wr) (fun _ i _ => (intOf i + 1).toNat)
      case atStart => exact ⟨0, Nat.zero_le _, rfl, World.ownsRow_nil _ _ _ _, Below.refl _ _⟩
      case round =>
        rename World => W2
        obtain ⟨j, hj, rfl, hO, hb2⟩ := hrel
        have hz2 := hb2.size
        by_cases hlt2 : j < 8
        · obtain ⟨q, hq⟩ : ∃ q : Nat, 7 = j + q := ⟨7 - j, by omega⟩
          have eq1 : (7 : Int) - (j : Int) = (q : Int) := by omega
          have hd2 : decide (0 ≤ (q : Int)) = true := by simp only [decide_eq_true_eq]; omega
          have c1 : W2.cell? ⟨g, q, none⟩ = some (.int .u8 ((UInt8.ofNat (n / 256 ^ q)).toNat : Int)) := (hb2.cell (p := ⟨g, q, none⟩) hgl).trans (HCC.out q _ (lowL_at n 8 q (by omega)))
          have HK : Hid _ := highL_succ n j hlt2
          rw [show 7 - j = q by omega] at HK
          generalize UInt8.ofNat (n / 256 ^ q) = y at *
          have hi1 : IntKind.i64.wrap ((q : Int) - 1) = (q : Int) - 1 := by rw [IntKind.wrap_i64]; omega
          have t2 : (q : Int) < 8 := by omega
          have t3 : q < 8 := by omega
          rw [eq1]
          have HQ : Hid _ := hq
          have HO : Hid _ := hO
          clear hO hq eq1
          go_wp2_with (at_builtin; refine wpList_append_own _ rfl (.tmp 23) (.tmp 28) 69 rfl W1.heap.size 5 i0 (.int .u8 0) 1 1 Try.underlying69 hi hz0 hz1 hz3 rfl (by decide) _ _ _ rfl (World.ownsRow.alloc HO.out _) ⟨W2.heap.size, 0, none⟩ 1 1 [.int .u8 (y.toNat : Int)] rfl rfl ?c1 ?c2 ?c3 ?c4 ?c5 ?_)
          case c1 => exact cell_one_new _ _ _
          case c2 => intro u hu; simp at hu; subst hu; rfl
          case c3 => unfold maxLen; omega
          case c4 => omega
          case c5 => simp; omega
          intro v' w4 ho' hg' _
          go_wp2_with fail
          have hqq := HQ.out
          refine ⟨⟨j + 1, by omega, ?_, ?_, below_grown (hb2.alloc (by omega) _) hg' (fun z hz => (World.ownsRow.lt HO.out z hz).1) (by simp; omega)⟩, ?_⟩
          · congr 1; omega
          · rw [HK.out, byC_snoc]; exact ho'
          · simp [intOf]
        · obtain rfl : j = 8 := by omega
          have e1 : (7 : Int) - ((8 : Nat) : Int) = -1 := by omega
          rw [e1]
          rw [highL_full] at hO
          obtain ⟨g2, cap2, rfl, _, _, hcc2⟩ := own_at hO (by decide)
          have hcv := run_convert_bytes_back (P := Try.prog) W2 69 9 5 ⟨g2, 0, none⟩ cap2 (eightL n) Try.underlying69 Try.underlying5 Try.underlying9 (fun i hi => by
            rw [Addr.add_mid, Nat.zero_add]
            exact hcc2 i _ (by simp [byC, hi]))
          rw [show (eightL n).length = 8 from rfl] at hcv
          clear hO hcc2 e1
          go_wp2
          go_ret
          exact ⟨rfl, hb.trans (hb2.mono hb.size)⟩
end Go.Proofs.Ytlloekgdelclcaa
