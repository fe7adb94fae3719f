/- LedgerSame for every two scripts: it answers true. -/
import Derived.Test.YtpbnimjcojeklaaDoorLgEq
import Derived.Deep.DeepCutAuto
import Derived.Deep.CutBlock
namespace Go.Proofs.YtpbnimjcojeklaaDoor
open Go.RowKit
set_option linter.unusedSimpArgs false
set_option linter.unusedVariables false

theorem Elems.cut {α : Type} {sz : Nat} {R : α → List Value} {B : α → Prop} {w : World} {a : Option Addr} {cap : Nat} {l : List α} (h : Elems sz R B w (.slice a l.length cap) l) (m : Nat) (hm : m ≤ l.length) : Elems sz R B w (.slice a m cap) (l.take m) := by
  rcases Nat.eq_zero_or_pos m with h0 | h0
  · subst h0; exact Or.inl ⟨⟨a, cap, rfl⟩, by simp⟩
  · rcases h with ⟨_, rfl⟩ | ⟨b, off, cap', hv, hl, hlc, hc⟩
    · simp at hm; omega
    · injection hv with h1 h2 h3
      subst h1 h3
      refine Or.inr ⟨b, off, cap, by rw [List.length_take, Nat.min_eq_left hm], hl, by rw [List.length_take]; omega, fun i hi => ?_⟩
      rw [List.length_take, Nat.min_eq_left hm] at hi
      rw [List.getElem_take]
      exact hc i (by omega)
def allTold (L M : List Kt) (k : Nat) : Bool := (List.range k).all fun j => toldEq (kAt L j) (kAt M j)
theorem allTold_succ (L M : List Kt) (k : Nat) : allTold L M (k + 1) = (allTold L M k && toldEq (kAt L k) (kAt M k)) := by
  unfold allTold; rw [List.range_succ, List.all_append]; simp
theorem allTold_three (L M : List Kt) : allTold L M 3 = (toldEq (kAt L 0) (kAt M 0) && toldEq (kAt L 1) (kAt M 1) && toldEq (kAt L 2) (kAt M 2)) := by
  rw [allTold_succ, allTold_succ, allTold_succ]; simp [allTold]

set_option maxRecDepth 100000 in
set_option maxHeartbeats 4000000 in
theorem same_calls (v u : Value) (ls ms : List Ac) (w : World) (hl : Acs w v ls) (hm : Acs w u ms) (hz : ls.length * 56 ≤ 140737488351232) (hy : ms.length * 56 ≤ 140737488351232) :
    Calls Tryd.prog 6 #[v, u] w fun e w' => e = .returned (.bool true) ∧ Below w.heap.size w w' := by
  have HA : Hid _ := awake_calls
  obtain ⟨a, cap, rfl, hc⟩ := hl.any
  obtain ⟨a', cap', rfl, hc'⟩ := hm.any
  have hcap : 60 < ls.length → 60 ≤ cap := fun h => by obtain ⟨_, _, _, h1, _⟩ := hc 0 (by omega); omega
  have hcap' : 60 < ms.length → 60 ≤ cap' := fun h => by obtain ⟨_, _, _, h1, _⟩ := hc' 0 (by omega); omega
  have HC : Hid (Acs w (.slice a (min 60 ls.length) cap) (ls.take (min 60 ls.length))) := hl.cut _ (by omega)
  have HC' : Hid (Acs w (.slice a' (min 60 ms.length) cap') (ms.take (min 60 ms.length))) := hm.cut _ (by omega)
  clear hc hc' hl hm
  go_enter Tryd.func6, Tryd.ntmps6
  go_upto_if 19 with fail
  go_cut [0] (fun s0 wx => s0 = .slice a (min 60 ls.length) cap ∧ wx = w)
  case first =>
    by_cases h : 60 < ls.length
    · have hd : decide (60 < (ls.length : Int)) = true := by simp only [decide_eq_true_eq]; omega
      have := hcap h
      go_wp2_with fail
      go_meet
      exact ⟨by rw [Nat.min_eq_left (by omega)], rfl⟩
    · have hd : decide (60 < (ls.length : Int)) = false := by simp only [decide_eq_false_iff_not]; omega
      go_wp2_with fail
      go_meet
      exact ⟨by rw [Nat.min_eq_right (by omega)], rfl⟩
  case rest =>
    obtain ⟨rfl, rfl⟩ := hcut
    rename World => w
    go_upto_if 24 with fail
    go_cut [1] (fun s1 wx => s1 = .slice a' (min 60 ms.length) cap' ∧ wx = w)
    case first =>
      by_cases h : 60 < ms.length
      · have hd : decide (60 < (ms.length : Int)) = true := by simp only [decide_eq_true_eq]; omega
        have := hcap' h
        go_wp2_with fail
        go_meet
        exact ⟨by rw [Nat.min_eq_left (by omega)], rfl⟩
      · have hd : decide (60 < (ms.length : Int)) = false := by simp only [decide_eq_false_iff_not]; omega
        go_wp2_with fail
        go_meet
        exact ⟨by rw [Nat.min_eq_right (by omega)], rfl⟩
    case rest =>
      obtain ⟨rfl, rfl⟩ := hcut
      rename World => w
      have HB : Hid _ := begun_calls _ _ w HC.out (by rw [List.length_take]; omega)
      have hlen : (runs 2 empty3 ((ls.take (min 60 ls.length)).take 100)).length = 3 := foldl_len 2 _ empty3
      generalize runs 2 empty3 ((ls.take (min 60 ls.length)).take 100) = L at *
      go_wp2_with fail
      refine Calls.mono HB.out ?_
      rintro e w1 ⟨p, b, rfl, L1, b1, hp, hb⟩
      clear HB
      have HB : Hid _ := begun_calls _ _ w1 (Elems.below HC'.out b1) (by rw [List.length_take]; omega)
      have hlen' : (runs 2 empty3 ((ms.take (min 60 ms.length)).take 100)).length = 3 := foldl_len 2 _ empty3
      generalize runs 2 empty3 ((ms.take (min 60 ms.length)).take 100) = M at *
      go_wp2_with fail
      refine Calls.mono HB.out ?_
      rintro e w2 ⟨p', b', rfl, M2, b2, hp', hb'⟩
      clear HB HC HC' hcap hcap' hz hy
      have L2 := L1.below b2
      have z1 := b1.size
      have B2 : Below w.heap.size w w2 := b1.trans (b2.mono z1)
      have HIL : Hid _ := L1.inv
      have HIM : Hid _ := M2.inv
      have hS := recs_same L1.inv M2.inv hlen hlen'
      rw [← allTold_three] at hS
      have HS : Hid _ := hS
      clear hS L1 b1 b2
      go_wp2
      go_loopw [7, 8] (fun s i wr => ∃ k : Nat, k ≤ 3 ∧ i = .int .i64 k ∧ s = .bool (allTold L M k) ∧ Lg wr p b 2 L ∧ Lg wr p' b' 2 M ∧ Below w.heap.size w wr) (fun _ i _ => 3 - (intOf i).toNat)
      case atStart => exact ⟨0, by omega, rfl, rfl, L2, M2, B2⟩
      case round =>
        obtain ⟨k, hk, rfl, rfl, Lr, Mr, br⟩ := hrel
        by_cases hlt : k < 3
        · have hd : decide ((k : Int) < 3) = true := by simp only [decide_eq_true_eq]; omega
          have hac := account_ok wr Lr k (by omega) (by omega)
          have hla := fun wx (hx : Lg wx p b 2 L) => last_ok wx hx k (by omega) (by omega)
          have hmc := fun wx (hx : Lg wx p' b' 2 M) => account_ok wx hx k (by omega) (by omega)
          have hma := fun wx (hx : Lg wx p' b' 2 M) => last_ok wx hx k (by omega) (by omega)
          rw [Int.toNat_natCast] at hac hla hmc hma
          have hts := allTold_succ L M k
          generalize kAt L k = ka at *
          generalize kAt M k = kb at *
          have hEq := fun wx => eqAcc wx ka kb
          unfold toldEq at hts
          unfold accV accA at hac hmc
          unfold accA at hEq
          obtain ⟨A, hA⟩ : ∃ A, accEq ka kb = A := ⟨_, rfl⟩
          obtain ⟨N, hN⟩ : ∃ N, (ka.n 10 == kb.n 10) = N := ⟨_, rfl⟩
          obtain ⟨T, hT⟩ : ∃ T, (ka.reply.toList == kb.reply.toList) = T := ⟨_, rfl⟩
          obtain ⟨S, hS⟩ : ∃ S, allTold L M k = S := ⟨_, rfl⟩
          rw [hA, hN, hT, hS] at hts
          rw [hA] at hEq
          rw [hS]
          have HAC : Hid _ := hac
          have HMC : Hid _ := hmc
          have HLA : Hid _ := hla
          have HMA : Hid _ := hma
          have HTS : Hid _ := hts
          clear hac hmc hla hma hts hA hS
          go_wp2_with fail
          refine Calls.mono HAC.out ?_
          rintro e w3 ⟨rfl, b3⟩
          obtain ⟨W4, hW4, X4, B4⟩ : ∃ W4, (w3.alloc (.cells #[.int .i64 (ka.n 0), .int .i64 (ka.n 1), .int .i64 (ka.n 2), .int .i64 (ka.n 3), .int .i64 (ka.n 4), .int .i64 (ka.n 5), .int .i64 (ka.n 6), .int .i64 (ka.n 7), .int .i64 (ka.n 8), .int .i64 (ka.n 9)] 43)) = W4 ∧ Blk W4 w3.heap.size #[.int .i64 (ka.n 0), .int .i64 (ka.n 1), .int .i64 (ka.n 2), .int .i64 (ka.n 3), .int .i64 (ka.n 4), .int .i64 (ka.n 5), .int .i64 (ka.n 6), .int .i64 (ka.n 7), .int .i64 (ka.n 8), .int .i64 (ka.n 9)] 43 ∧ Below w3.heap.size w3 W4 := ⟨_, rfl, blk_new _ _ _ _ rfl, by go_grown⟩
          have M4 := (Mr.below b3).below B4
          have L4 := (Lr.below b3).below B4
          go_wp2_with fail
          refine (HMC.out _ M4).mono ?_
          rintro e w5 ⟨rfl, b5⟩
          obtain ⟨W6, hW6, X6, B6⟩ : ∃ W6, (w5.alloc (.cells #[.int .i64 (kb.n 0), .int .i64 (kb.n 1), .int .i64 (kb.n 2), .int .i64 (kb.n 3), .int .i64 (kb.n 4), .int .i64 (kb.n 5), .int .i64 (kb.n 6), .int .i64 (kb.n 7), .int .i64 (kb.n 8), .int .i64 (kb.n 9)] 43)) = W6 ∧ Blk W6 w5.heap.size #[.int .i64 (kb.n 0), .int .i64 (kb.n 1), .int .i64 (kb.n 2), .int .i64 (kb.n 3), .int .i64 (kb.n 4), .int .i64 (kb.n 5), .int .i64 (kb.n 6), .int .i64 (kb.n 7), .int .i64 (kb.n 8), .int .i64 (kb.n 9)] 43 ∧ Below w5.heap.size w5 W6 := ⟨_, rfl, blk_new _ _ _ _ rfl, by go_grown⟩
          have L6 := (L4.below b5).below B6
          have M6 := (M4.below b5).below B6
          have Y6 := (X4.below b5).below B6
          go_wp2_with fail
          refine (HLA.out _ L6).mono ?_
          rintro e w7 ⟨rfl, b7⟩
          have L7 := L6.below b7
          have M7 := M6.below b7
          go_wp2_with fail
          refine (HMA.out _ M7).mono ?_
          rintro e w8 ⟨rfl, b8⟩
          have L8 := L7.below b8
          have M8 := M7.below b8
          have X8 := (X6.below b7).below b8
          have Y8 := (Y6.below b7).below b8
          have c0 : w8.cell? ⟨w3.heap.size, 0, none⟩ = some (.int .i64 (ka.n 0)) := Y8.cell rfl
          have c1 : w8.cell? ⟨w3.heap.size, 1, none⟩ = some (.int .i64 (ka.n 1)) := Y8.cell rfl
          have c2 : w8.cell? ⟨w3.heap.size, 2, none⟩ = some (.int .i64 (ka.n 2)) := Y8.cell rfl
          have c3 : w8.cell? ⟨w3.heap.size, 3, none⟩ = some (.int .i64 (ka.n 3)) := Y8.cell rfl
          have c4 : w8.cell? ⟨w3.heap.size, 4, none⟩ = some (.int .i64 (ka.n 4)) := Y8.cell rfl
          have c5 : w8.cell? ⟨w3.heap.size, 5, none⟩ = some (.int .i64 (ka.n 5)) := Y8.cell rfl
          have c6 : w8.cell? ⟨w3.heap.size, 6, none⟩ = some (.int .i64 (ka.n 6)) := Y8.cell rfl
          have c7 : w8.cell? ⟨w3.heap.size, 7, none⟩ = some (.int .i64 (ka.n 7)) := Y8.cell rfl
          have c8 : w8.cell? ⟨w3.heap.size, 8, none⟩ = some (.int .i64 (ka.n 8)) := Y8.cell rfl
          have c9 : w8.cell? ⟨w3.heap.size, 9, none⟩ = some (.int .i64 (ka.n 9)) := Y8.cell rfl
          have d0 : w8.cell? ⟨w5.heap.size, 0, none⟩ = some (.int .i64 (kb.n 0)) := X8.cell rfl
          have d1 : w8.cell? ⟨w5.heap.size, 1, none⟩ = some (.int .i64 (kb.n 1)) := X8.cell rfl
          have d2 : w8.cell? ⟨w5.heap.size, 2, none⟩ = some (.int .i64 (kb.n 2)) := X8.cell rfl
          have d3 : w8.cell? ⟨w5.heap.size, 3, none⟩ = some (.int .i64 (kb.n 3)) := X8.cell rfl
          have d4 : w8.cell? ⟨w5.heap.size, 4, none⟩ = some (.int .i64 (kb.n 4)) := X8.cell rfl
          have d5 : w8.cell? ⟨w5.heap.size, 5, none⟩ = some (.int .i64 (kb.n 5)) := X8.cell rfl
          have d6 : w8.cell? ⟨w5.heap.size, 6, none⟩ = some (.int .i64 (kb.n 6)) := X8.cell rfl
          have d7 : w8.cell? ⟨w5.heap.size, 7, none⟩ = some (.int .i64 (kb.n 7)) := X8.cell rfl
          have d8 : w8.cell? ⟨w5.heap.size, 8, none⟩ = some (.int .i64 (kb.n 8)) := X8.cell rfl
          have d9 : w8.cell? ⟨w5.heap.size, 9, none⟩ = some (.int .i64 (kb.n 9)) := X8.cell rfl
          have zr := br.size
          have z3 := b3.size
          have z4 := B4.size
          have z5 := b5.size
          have z6 := B6.size
          have z7 := b7.size
          have BW : Hid (Below w.heap.size w w8) := (((((br.trans (b3.mono (by omega))).trans (B4.mono (by omega))).trans (b5.mono (by omega))).trans (B6.mono (by omega))).trans (b7.mono (by omega))).trans (b8.mono (by omega))
          cases S
          · go_wp2
            refine ⟨⟨k + 1, by omega, by norm_cast, by rw [HTS.out]; rfl, L8, M8, BW.out⟩, ?_⟩
            simp [intOf]; omega
          · cases A
            · go_wp2
              refine ⟨⟨k + 1, by omega, by norm_cast, by rw [HTS.out]; rfl, L8, M8, BW.out⟩, ?_⟩
              simp [intOf]; omega
            · cases N
              · go_wp2
                refine ⟨⟨k + 1, by omega, by norm_cast, by rw [HTS.out]; rfl, L8, M8, BW.out⟩, ?_⟩
                simp [intOf]; omega
              · go_wp2
                refine ⟨⟨k + 1, by omega, by norm_cast, by rw [HTS.out]; rfl, L8, M8, BW.out⟩, ?_⟩
                simp [intOf]; omega
        · have hd : decide ((k : Int) < 3) = false := by simp only [decide_eq_false_iff_not]; omega
          have hk3 : k = 3 := by omega
          subst hk3
          have HR : Hid _ := records_calls wr Lr
          go_wp2_with fail
          refine Calls.mono HR.out ?_
          rintro e w3 ⟨v3, rfl, o3, b3⟩
          clear HR
          have M3 := Mr.below b3
          have HR : Hid _ := records_calls w3 M3
          go_wp2_with fail
          refine Calls.mono HR.out ?_
          rintro e w4 ⟨v4, rfl, o4, b4⟩
          have q1 := rcs_recs HIL.out (own_belowL o3 b4)
          have q2 := rcs_recs HIM.out o4
          have HQ := sameRecords_ref v3 v4 _ _ w4 q1 q2 (by rw [recs_len]; omega) (by rw [recs_len]; omega)
          rw [HS.out] at HQ
          obtain ⟨S, hSS⟩ : ∃ S, allTold L M 3 = S := ⟨_, rfl⟩
          rw [hSS] at HQ ⊢
          clear hSS
          have B3 := br.trans (b3.mono br.size)
          have B4 := B3.trans (b4.mono B3.size)
          cases S
          · go_wp2_with fail
            refine HQ.mono ?_
            rintro e w5 ⟨rfl, b5⟩
            go_wp2_with fail
            refine (HA.out _).mono ?_
            rintro e w6 ⟨rfl, b6⟩
            go_wp2
            go_ret
            have B5 := B4.trans (b5.mono B4.size)
            exact ⟨rfl, B5.trans (b6.mono B5.size)⟩
          · go_wp2_with fail
            refine HQ.mono ?_
            rintro e w5 ⟨rfl, b5⟩
            go_wp2_with fail
            refine (HA.out _).mono ?_
            rintro e w6 ⟨rfl, b6⟩
            go_wp2
            go_ret
            have B5 := B4.trans (b5.mono B4.size)
            exact ⟨rfl, B5.trans (b6.mono B5.size)⟩
end Go.Proofs.YtpbnimjcojeklaaDoor
