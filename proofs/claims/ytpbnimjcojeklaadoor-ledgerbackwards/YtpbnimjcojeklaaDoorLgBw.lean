/- LedgerBackwards for every script, client, good and amount: it answers true. -/
import Derived.Test.YtpbnimjcojeklaaDoorLgK
import Derived.Test.YtpbnimjcojeklaaDoorLgBp
namespace Go.Proofs.YtpbnimjcojeklaaDoor
open Go.RowKit
set_option linter.unusedSimpArgs false
set_option linter.unusedVariables false

set_option maxRecDepth 100000 in
set_option maxHeartbeats 4000000 in
theorem backwards_calls (v : Value) (ls : List Ac) (who good n : Int) (w : World) (hl : Acs w v ls) (hz : ls.length * 56 ≤ 140737488351232) :
    Calls Tryd.prog 4 #[v, .int .i64 who, .int .i64 good, .int .i64 n] w fun e w' => e = .returned (.bool true) ∧ Below w.heap.size w w' := by
  have HB : Hid _ := begun_calls v ls w hl hz
  have HA : Hid _ := awake_calls
  have hlen : (runs 2 empty3 (ls.take 100)).length = 3 := foldl_len 2 _ empty3
  generalize runs 2 empty3 (ls.take 100) = L at *
  go_enter Tryd.func4, Tryd.ntmps4
  go_wp2_with fail
  refine Calls.mono HB.out ?_
  rintro e w1 ⟨p, b, rfl, L1, b1, hp, hb⟩
  clear HB hl hz
  have HR : Hid _ := records_calls w1 L1
  go_wp2_with fail
  refine Calls.mono HR.out ?_
  rintro e w2 ⟨v1, rfl, o2, b2⟩
  clear HR
  have L2 := L1.below b2
  have hbl := L1.row.lt
  have z1 := b1.size
  have B2 : Below w.heap.size w w2 := b1.trans (b2.mono z1)
  have HIL : Hid _ := L1.inv
  have HBK : Hid _ := fun kd hk => act_back L1.inv kd who good n hk
  have HNO : Hid _ := fun kd => act_not (g := 2) (l := L) ⟨kd, who, 0, good, n, ⟨#[]⟩⟩
  have o2' : Hid _ := o2
  clear o2
  go_wp2
  go_loopw [11] (fun i wr => ∃ k : Nat, k ≤ 4 ∧ i = .int .i64 (2 * (k : Int)) ∧ Lg wr p b 2 L ∧ wr.ownsRow w1.heap.size 32 2 v1 L.length (rcCells (recs 2 L)) ∧ Below w.heap.size w wr) (fun i _ => 8 - (intOf i).toNat)
  case atStart => exact ⟨0, by omega, rfl, L2, o2'.out, B2⟩
  case round =>
    obtain ⟨k, hk, rfl, Lr, ho, br⟩ := hrel
    have HO : Hid _ := ho
    clear ho
    by_cases hlt : k < 4
    · have hd : decide (2 * (k : Int) < 8) = true := by simp only [decide_eq_true_eq]; omega
      have hk4 : (2 * (k : Int)) = 0 ∨ (2 * (k : Int)) = 2 ∨ (2 * (k : Int)) = 4 ∨ (2 * (k : Int)) = 6 := by omega
      have HB2 : Hid _ := HBK.out _ hk4
      have HN2 : Hid _ := HNO.out (2 * (k : Int))
      have HD : Hid _ := done_calls wr Lr ⟨2 * (k : Int), who, 0, good, n, ⟨#[]⟩⟩ (by show (0 : Nat) ≤ _; omega) _ rfl
      have HLN : Hid _ := act_len 2 L ⟨2 * (k : Int), who, 0, good, n, ⟨#[]⟩⟩
      unfold Ac.val at HD
      generalize act 2 L ⟨2 * (k : Int), who, 0, good, n, ⟨#[]⟩⟩ = r at *
      clear hk4
      by_cases h0 : r.1 = 0
      · have hact := HB2.out h0
        have hb0 : (r.1 == 0) = true := by simpa using h0
        rw [h0] at HD
        go_wp2_with fail
        refine Calls.mono HD.out ?_
        rintro e w3 ⟨rfl, L3, O3⟩
        have HD2 : Hid _ := done_calls w3 L3 ⟨2 * (k : Int) + 1, who, 0, good, n, ⟨#[]⟩⟩ (by show (0 : Nat) ≤ _; omega) _ hact
        unfold Ac.val at HD2
        have o3 := own_offL HO.out O3 hbl
        have B3 : Below w.heap.size w w3 := O3.below hb br br.size
        clear hact HB2 HN2
        go_wp2_with fail
        refine Calls.mono HD2.out ?_
        rintro e w4 ⟨rfl, L4, O4⟩
        have o4 := own_offL o3 O4 hbl
        have B4 : Below w.heap.size w w4 := O4.below hb B3 B3.size
        go_wp2
        refine ⟨⟨k + 1, by omega, ?_, L4, o4, B4⟩, ?_⟩
        · congr 1
        · simp [intOf]; omega
      · have hb0 : (r.1 == 0) = false := by simpa using h0
        have hr := HN2.out h0
        go_wp2_with fail
        refine Calls.mono HD.out ?_
        rintro e w3 ⟨rfl, L3, O3⟩
        have o3 := own_offL HO.out O3 hbl
        have B3 : Below w.heap.size w w3 := O3.below hb br br.size
        rw [hr] at L3
        go_wp2
        refine ⟨⟨k + 1, by omega, ?_, L3, o3, B3⟩, ?_⟩
        · congr 1
        · simp [intOf]; omega
    · have hd : decide (2 * (k : Int) < 8) = false := by simp only [decide_eq_false_iff_not]; omega
      have HR : Hid _ := records_calls wr Lr
      go_wp2_with fail
      refine Calls.mono HR.out ?_
      rintro e w3 ⟨v3, rfl, o3, b3⟩
      have q1 := rcs_recs HIL.out o3
      have q2 := rcs_recs HIL.out (own_belowL HO.out b3)
      have hl3 : (recs 2 L).length = 3 := by rw [recs_len, hlen]
      have HS := sameRecords_ref v3 v1 _ _ w3 q1 q2 (by omega) (by omega)
      rw [sameRc_self] at HS
      go_wp2_with fail
      refine HS.mono ?_
      rintro e w4 ⟨rfl, b4⟩
      go_wp2_with fail
      refine (HA.out _).mono ?_
      rintro e w5 ⟨rfl, b5⟩
      go_wp2
      go_ret
      have B3 := br.trans (b3.mono br.size)
      have B4 := B3.trans (b4.mono B3.size)
      exact ⟨rfl, B4.trans (b5.mono B4.size)⟩
end Go.Proofs.YtpbnimjcojeklaaDoor
