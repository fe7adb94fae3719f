/- A request as bytes: the document's answer. -/
import Derived.Test.YtdaonkgcdheplaaOpB
import Derived.Test.YtdaonkgcdheplaaRef1
import Derived.Test.YtdaonkgcdheplaaRcX
import Derived.Test.YtdaonkgcdheplaaRcM
namespace Go.Proofs.Ytdaonkgcdheplaa
open Go.RowKit
set_option linter.unusedVariables false
set_option linter.unusedSimpArgs false

theorem catL (a b : List UInt8) : (⟨a.toArray⟩ : ByteArray) ++ (⟨b.toArray⟩ : ByteArray) = ⟨(a ++ b).toArray⟩ := by
  apply ByteArray.ext; simp [ByteArray.data_append]
theorem ints_cell (o : Oo) (k : Nat) (h : k < o.ints.length) : (#[.int .i64 o.k, .int .i64 o.g, .int .i64 o.a, .int .i64 o.d, .int .i64 o.i] : Array Value)[k]? = some (.int .i64 o.ints[k]) := by
  obtain rfl | rfl | rfl | rfl | rfl : k = 0 ∨ k = 1 ∨ k = 2 ∨ k = 3 ∨ k = 4 := by rw [ints_len] at h; omega
  · rfl
  · rfl
  · rfl
  · rfl
  · rfl

set_option maxRecDepth 100000 in
set_option maxHeartbeats 1000000 in
theorem op_ref (o : Oo) (w : World) (hp : o.pr < 18446744073709551616) :
    Calls Try.prog 18 #[o.val] w fun e w' => e = .returned (.tuple (opR o)) ∧ Below w.heap.size w w' := by
  obtain ⟨i0, hi, hz0, hz1, hz2⟩ := info_parts infoByte
  have hfb := run_f64bits o.pr
  have X0 := (blk_new w w.heap.size #[.int .i64 o.k, .int .i64 o.g, .int .i64 o.a, .int .i64 o.d, .int .i64 o.i, .float .f64 o.pr] 41 rfl).alloc (.cells #[.int .i64 o.k, .int .i64 o.g, .int .i64 o.a, .int .i64 o.d, .int .i64 o.i] 3)
  have L0 := blk_new (w.alloc (.cells #[.int .i64 o.k, .int .i64 o.g, .int .i64 o.a, .int .i64 o.d, .int .i64 o.i, .float .f64 o.pr] 41)) (w.heap.size + 1) #[.int .i64 o.k, .int .i64 o.g, .int .i64 o.a, .int .i64 o.d, .int .i64 o.i] 3 (by simp)
  have hB0 : Below w.heap.size w ((w.alloc (.cells #[.int .i64 o.k, .int .i64 o.g, .int .i64 o.a, .int .i64 o.d, .int .i64 o.i, .float .f64 o.pr] 41)).alloc (.cells #[.int .i64 o.k, .int .i64 o.g, .int .i64 o.a, .int .i64 o.d, .int .i64 o.i] 3)) := by go_grown
  unfold Oo.val
  go_enter Try.func18, Try.ntmps18
  go_wp2
  go_loopw [5, 6] (fun sv i wr => ∃ (k : Nat) (Z : List UInt8), k ≤ 5 ∧ sv = .string ⟨Z.toArray⟩ ∧ i = .int .i64 k ∧ Hid (Z = (o.ints.take k).flatMap encI) ∧ Hid ((o.ints.take k).all numOk = true) ∧ Below w.heap.size w wr ∧ Blk wr w.heap.size #[.int .i64 o.k, .int .i64 o.g, .int .i64 o.a, .int .i64 o.d, .int .i64 o.i, .float .f64 o.pr] 41 ∧ Blk wr (w.heap.size + 1) #[.int .i64 o.k, .int .i64 o.g, .int .i64 o.a, .int .i64 o.d, .int .i64 o.i] 3) (fun _ i _ => 5 - (intOf i).toNat)
  case atStart => exact ⟨0, [], Nat.zero_le _, rfl, rfl, by show _ = _; simp, by show _ = _; simp, hB0, X0, L0⟩
  case round =>
    obtain ⟨k, Z, hk, rfl, rfl, hZ, hall, hb, X, L⟩ := hrel
    have hz := hb.size
    clear X0 L0 hB0
    have htl := ints_take_len o k
    rw [← hZ.out] at htl
    by_cases hlt : k < 5
    · have hd : decide ((k : Int) < 5) = true := by simp only [decide_eq_true_eq]; omega
      have hkl : k < o.ints.length := by rw [ints_len]; exact hlt
      have hix := L.cell (o := k) (ints_cell o k hkl)
      have hkn : Hid (opOk o = ((o.ints.take k).all numOk && (numOk o.ints[k] && (o.ints.drop (k + 1)).all numOk))) := all_split numOk o.ints k hkl
      have htk : Hid (o.ints.take (k + 1) = o.ints.take k ++ [o.ints[k]]) := List.take_succ_eq_append_getElem hkl
      generalize o.ints[k] = n at hix hkn htk
      by_cases n0 : 0 ≤ n
      · have d0 : decide (n < 0) = false := by simp only [decide_eq_false_iff_not]; omega
        by_cases n1 : n ≤ 9007199254740992
        · have d1 : decide (9007199254740992 < n) = false := by simp only [decide_eq_false_iff_not]; omega
          have hn : numOk n = true := decide_eq_true ⟨n0, n1⟩
          obtain ⟨m, rfl⟩ := Int.eq_ofNat_of_zero_le n0
          have hall2 : Hid ((o.ints.take (k + 1)).all numOk = true) := by show _ = _; rw [htk.out, List.all_append, hall.out]; simp [hn]
          have hB2 : Hid (Z ++ enc m = (o.ints.take (k + 1)).flatMap encI) := by show _ = _; rw [htk.out, List.flatMap_append, hZ.out]; simp [encI]
          have hnum := number_ref m wr (by omega)
          have el := enc_le m
          have hcat : ¬ 9223372036854775807 < Z.length + (enc m).length := by omega
          clear hn hall hkn htk hZ
          go_wp2_with fail
          refine hnum.mono ?_
          rintro e w1 ⟨rfl, b1⟩
          have B1 := hb.trans (b1.mono hz)
          go_wp2
          go_roundw
          case rel => exact ⟨k + 1, Z ++ enc m, by omega, by rw [← catL], by go_num, hB2, hall2, B1, X.below b1, L.below b1⟩
          case measure => simp [intOf]; omega
        · have d1 : decide (9007199254740992 < n) = true := by simp only [decide_eq_true_eq]; omega
          have hfin : Hid (opR o = #[.string ⟨#[]⟩, .int .i64 14]) := by
            show _ = _
            unfold opR
            rw [if_neg (by rw [hkn.out, show numOk n = false from decide_eq_false (by omega)]; simp)]
          clear hkn htk
          go_wp2
          go_ret2
          exact ⟨by rw [hfin.out]; rfl, hb⟩
      · have d0 : decide (n < 0) = true := by simp only [decide_eq_true_eq]; omega
        have hfin : Hid (opR o = #[.string ⟨#[]⟩, .int .i64 14]) := by
          show _ = _
          unfold opR
          rw [if_neg (by rw [hkn.out, show numOk n = false from decide_eq_false (by omega)]; simp)]
        clear hkn htk
        go_wp2
        go_ret2
        exact ⟨by rw [hfin.out]; rfl, hb⟩
    · have hd : decide ((k : Int) < 5) = false := by simp only [decide_eq_false_iff_not]; omega
      have e5 : o.ints.take k = o.ints := List.take_of_length_le (by rw [ints_len]; omega)
      rw [e5] at hall hZ
      have hfin : Hid (opR o = #[.string ⟨(Z ++ le8 o.pr).toArray⟩, .int .i64 0]) := by
        show _ = _
        unfold opR opB
        rw [if_pos (show opOk o = true from hall.out), ← hZ.out]
      have c5 := X.cell (o := 5) rfl
      have hxl := L.lt
      clear hall hZ e5
      go_wp2
      go_loopw [7, 8, 9] (fun xv bv i wi => ∃ j : Nat, j ≤ 8 ∧ xv = .int .u64 ((o.pr / 256 ^ j : Nat) : Int) ∧ i = .int .i64 j ∧ wi.ownsRow (w.heap.size + 2) 5 1 bv j (Lib.byteCells (leN o.pr j)) ∧ Below w.heap.size w wi ∧ w.heap.size + 2 ≤ wi.heap.size) (fun _ _ i _ => 8 - (intOf i).toNat)
      case atStart => exact ⟨0, Nat.zero_le _, by simp, rfl, by simpa [leN, Lib.byteCells] using World.ownsRow_nil _ _ _ _, hb, by omega⟩
      case round =>
        obtain ⟨j, hj, rfl, rfl, ho, hbi, hzi⟩ := hrel
        by_cases hjl : j < 8
        · have hdj : decide ((j : Int) < 8) = true := by simp only [decide_eq_true_eq]; omega
          have hstep : o.pr / 256 ^ (j + 1) = o.pr / 256 ^ j / 256 := by rw [Nat.pow_succ, Nat.div_div_eq_div_mul]
          have hsm : o.pr / 256 ^ j < 18446744073709551616 := Nat.lt_of_le_of_lt (Nat.div_le_self _ _) hp
          have hlb := leB_nat o.pr j
          have HST : Hid _ := hstep
          have HLB : Hid _ := hlb
          clear hstep hlb
          generalize hy : o.pr / 256 ^ j = y at *
          clear hy
          go_wp2_with (at_builtin; refine wpList_append_own _ rfl (.tmp 51) (.tmp 55) 48 rfl (w.heap.size + 2) 5 i0 (.int .u8 0) 1 1 Try.underlying48 hi hz0 hz1 hz2 rfl (by decide) _ _ _ rfl (ho.alloc _) ⟨_, 0, none⟩ 1 1 [.int .u8 ((y : Int) % 256)] rfl rfl ?c1 ?c2 ?c3 ?c4 ?c5 ?_)
          case c1 => exact cell_one_new _ _ _
          case c2 => intro u hu; simp at hu; subst hu; rfl
          case c3 => unfold maxLen; omega
          case c4 => omega
          case c5 => simp; omega
          intro v' w1 hown' hgrow _
          go_wp2
          refine ⟨⟨j + 1, by omega, by rw [HST.out]; simp, by go_num, ?_, ?_, ?_⟩, by simp [intOf]; omega⟩
          · rw [leN_succ, byteCells_snoc _ _ HLB.out]
            simpa using hown'
          · exact below_grown (hbi.alloc hbi.size _) hgrow (fun k hk => by have := (ho.lt k hk).1; omega) (by simp; omega)
          · have := hgrow.size
            simp at this
            omega
        · have hdj : decide ((j : Int) < 8) = false := by simp only [decide_eq_false_iff_not]; omega
          have e8 : j = 8 := by omega
          subst e8
          have hcv := own_convert (l := le8 o.pr) (by rw [show le8 o.pr = leN o.pr 8 from rfl]; exact ho)
          have hl8 : (le8 o.pr).length = 8 := leN_len _ _
          have hcat : ¬ 9223372036854775807 < Z.length + (le8 o.pr).length := by omega
          clear hl8
          generalize le8 o.pr = Y at *
          go_wp2
          exact bodyPost_ret (v := .tuple #[.string (⟨Z.toArray⟩ ++ ⟨Y.toArray⟩), .int .i64 0]) (by simp [results, Try.results18, go_sem]) rfl ⟨by rw [hfin.out, catL], hbi⟩
end Go.Proofs.Ytdaonkgcdheplaa
