/- The document's bytes of a batch. -/
import Derived.Test.YtbdakbibnigdjabBtA
import Derived.Test.YtbdakbibnigdjabRefS
namespace Go.Proofs.Ytbdakbibnigdjab
open Go.RowKit
set_option linter.unusedVariables false
set_option linter.unusedSimpArgs false

set_option maxRecDepth 100000 in
set_option maxHeartbeats 1000000 in
theorem batch_ref (v : Value) (l : List Sg) (w : World) (h : Sgs w v l) (hl : l.length < 9223372036854775807) :
    Calls Try.prog 20 #[v] w fun e w' => e = .returned (.tuple (batchR l)) ∧ Below w.heap.size w w' := by
  have hnot : ∀ (x : Bool) (w : World), (Op.unary .not (.bool x)).run Try.prog w = .ok (.bool (!x)) w := fun _ _ => rfl
  have h0 := h
  obtain ⟨p, c, rfl⟩ := h.len
  by_cases h4 : 4 < l.length
  · have hfin : Hid (batchR l = #[.string ⟨#[]⟩, .int .i64 2]) := by show _ = _; unfold batchR; rw [if_pos h4]
    have hd : decide ((4 : Int) < (l.length : Int)) = true := by simp only [decide_eq_true_eq]; omega
    clear h h0
    go_enter Try.func20, Try.ntmps20
    go_wp2
    go_ret2
    exact ⟨by rw [hfin.out]; rfl, Below.refl _ _⟩
  · have hd : decide ((4 : Int) < (l.length : Int)) = false := by simp only [decide_eq_false_iff_not]; omega
    have hars := fitAll_ref (.slice p l.length c) l w h hl
    cases hall : l.all sgOk with
    | false =>
      have hfin : Hid (batchR l = #[.string ⟨#[]⟩, .int .i64 14]) := by show _ = _; unfold batchR; rw [if_neg h4, hall]; rfl
      rw [hall] at hars
      clear h h0
      go_enter Try.func20, Try.ntmps20
      go_wp2_with fail
      refine hars.mono ?_
      rintro e w1 ⟨rfl, b1⟩
      go_wp2
      go_ret2
      exact ⟨by rw [hfin.out]; rfl, b1⟩
    | true =>
      have hfin : Hid (batchR l = if 1048576 < (batchB l).length then #[.string ⟨#[]⟩, .int .i64 4] else #[.string ⟨(batchB l).toArray⟩, .int .i64 0]) := by show _ = _; unfold batchR; rw [if_neg h4, hall, if_pos rfl]
      have hlen := batchB_len l hall (by omega)
      have hnum := fun wx => number_ref l.length wx (by omega)
      have HN : Hid _ := hnum
      rw [hall] at hars
      have HS : Hid _ := h0
      have HALL : Hid _ := hall
      clear h h0 hnum
      go_enter Try.func20, Try.ntmps20
      go_wp2_with fail
      refine hars.mono ?_
      rintro e w1 ⟨rfl, b1⟩
      go_wp2_with fail
      refine (HN.out _).mono ?_
      rintro e w2 ⟨rfl, b2⟩
      have B2 := b1.trans (b2.mono b1.size)
      go_wp2
      go_loopw [4, 5] (fun sv i wr => ∃ (k : Nat) (Z : List UInt8), k ≤ l.length ∧ sv = .string ⟨Z.toArray⟩ ∧ i = .int .i64 k ∧ Hid (Z = enc l.length ++ sgsB (l.take k)) ∧ Below w.heap.size w wr) (fun _ i _ => l.length - (intOf i).toNat)
      case atStart => exact ⟨0, enc l.length, Nat.zero_le _, rfl, rfl, by show _ = _; simp [sgsB], B2⟩
      case round =>
        obtain ⟨k, Z, hk, rfl, rfl, hZ, hb⟩ := hrel
        have hZl : Z.length ≤ 68000000 := by
          have h1 := sgsB_take_len l HALL.out k (by omega)
          have h2 := enc_le l.length
          rw [hZ.out, List.length_append]; omega
        by_cases hlt : k < l.length
        · have hd2 : decide ((k : Int) < l.length) = true := by simp only [decide_eq_true_eq]; omega
          rcases HS.out with ⟨_, rfl⟩ | ⟨b, off, cap, hv, hc⟩
          · simp at hlt
          · simp only [Value.slice.injEq] at hv
            obtain ⟨rfl, _, rfl⟩ := hv
            obtain ⟨c1, c2, c3, z1, z2⟩ := hc k hlt
            have hbl := World.block_lt_of_cell? w _ c1
            have d1 := (hb.cell (p := ⟨b, off + k * 3, none⟩) hbl).trans c1
            have d2 := (hb.cell (p := ⟨b, off + k * 3 + 1, none⟩) hbl).trans c2
            have d3 := (hb.cell (p := ⟨b, off + k * 3 + 2, none⟩) hbl).trans c3
            have hmk : sgOk l[k] = true := List.all_eq_true.1 HALL.out _ (List.getElem_mem hlt)
            have hml := sgB_len l[k] hmk
            have hone := fun wx => one_ref l[k] wx hmk
            have HO : Hid _ := hone
            have hst := sgsB_take l k hlt
            have HT : Hid (Z ++ sgB l[k] = enc l.length ++ sgsB (l.take (k + 1))) := by show _ = _; rw [hst, hZ.out, List.append_assoc]
            clear c1 c2 c3 hc hone hst hZ hmk
            generalize hY : sgB l[k] = Y at *
            clear hY
            have hcat : ¬ 9223372036854775807 < Z.length + Y.length := by omega
            go_wp2_with fail
            refine (HO.out _).mono ?_
            rintro e w3 ⟨rfl, b3⟩
            have hbw : Below w.heap.size w w3 := hb.trans (b3.mono hb.size)
            go_wp2
            go_roundw
            case rel => exact ⟨k + 1, Z ++ Y, by omega, by rw [← cat2], by go_num, HT, hbw⟩
            case measure => simp [intOf]; omega
        · have hd2 : decide ((k : Int) < l.length) = false := by simp only [decide_eq_false_iff_not]; omega
          have hZb : Hid (batchB l = Z) := by
            show _ = _
            rw [hZ.out, show k = l.length by omega, List.take_length]; rfl
          clear hZ
          by_cases hL : 1048576 < Z.length
          · have hdL : decide ((1048576 : Int) < (Z.length : Int)) = true := by simp only [decide_eq_true_eq]; omega
            go_wp2
            exact bodyPost_ret (v := .tuple #[.string ⟨#[]⟩, .int .i64 4]) (by simp [results, Try.results20, go_sem]) rfl ⟨by rw [hfin.out, hZb.out]; simp [hL], hb⟩
          · have hdL : decide ((1048576 : Int) < (Z.length : Int)) = false := by simp only [decide_eq_false_iff_not]; omega
            go_wp2
            exact bodyPost_ret (v := .tuple #[.string ⟨Z.toArray⟩, .int .i64 0]) (by simp [results, Try.results20, go_sem]) rfl ⟨by rw [hfin.out, hZb.out]; simp [hL], hb⟩
end Go.Proofs.Ytbdakbibnigdjab
