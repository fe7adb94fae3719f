/- LedgerRefused for every script and call: it answers true. -/
import Derived.Test.YtpbnimjcojeklaaDoorLgK
namespace Go.Proofs.YtpbnimjcojeklaaDoor
open Go.RowKit
set_option linter.unusedSimpArgs false
set_option linter.unusedVariables false

theorem neq_self (m : Rc) (w : World) : (binOp .neq 32 (.agg #[.string m.key, .string m.dat]) (.agg #[.string m.key, .string m.dat])).run Tryd.prog w = .ok (.bool false) w := by
  have := run_neq_record m m w
  rw [rcEq_self] at this
  exact this

set_option maxRecDepth 100000 in
set_option maxHeartbeats 4000000 in
theorem refused_calls (v : Value) (ls : List Ac) (a : Ac) (w : World) (hl : Acs w v ls) (hz : ls.length * 56 ≤ 140737488351232) (hf : a.fit) :
    Calls Tryd.prog 3 #[v, a.val] w fun e w' => e = .returned (.bool true) ∧ Below w.heap.size w w' := by
  obtain ⟨W0, hW0, X0, B0, Z0⟩ : ∃ W0, (w.alloc (.cells #[.int .i64 a.kind, .int .i64 a.who, .int .i64 a.dst, .int .i64 a.good, .int .i64 a.n, .string a.text] 24)) = W0 ∧ Blk W0 w.heap.size #[.int .i64 a.kind, .int .i64 a.who, .int .i64 a.dst, .int .i64 a.good, .int .i64 a.n, .string a.text] 24 ∧ Below w.heap.size w W0 ∧ W0.heap.size = w.heap.size + 1 := ⟨_, rfl, blk_new _ _ _ _ rfl, by go_grown, by simp⟩
  have HB : Hid _ := begun_calls v ls W0 (hl.below B0) hz
  have HA : Hid _ := awake_calls
  have hlen : (runs 2 empty3 (ls.take 100)).length = 3 := foldl_len 2 _ empty3
  generalize runs 2 empty3 (ls.take 100) = L at *
  have hZ : Hid _ := Z0
  clear Z0
  unfold Ac.val
  go_enter Tryd.func3, Tryd.ntmps3
  go_wp2_with fail
  refine Calls.mono HB.out ?_
  rintro e w1 ⟨p, b, rfl, L1, b1, hp, hb⟩
  clear HB hl hz
  have HR : Hid _ := records_calls w1 L1
  go_wp2_with fail
  refine Calls.mono HR.out ?_
  rintro e w2 ⟨v1, rfl, o2, b2⟩
  clear HR
  have L2 := L1.below b2
  have A2 := (X0.below b1).below b2
  have z1 := b1.size
  have z2 := b2.size
  have z0 := B0.size
  have hbl := L1.row.lt
  have hne1 : w.heap.size ≠ b := by have := hZ.out; omega
  have hwb : w.heap.size ≤ b := by omega
  have BB : Below w.heap.size w w2 := (B0.trans (b1.mono (by omega))).trans (b2.mono (by omega))
  have a0 : w2.cell? ⟨w.heap.size, 0, none⟩ = some (.int .i64 a.kind) := A2.cell rfl
  have a1 : w2.cell? ⟨w.heap.size, 1, none⟩ = some (.int .i64 a.who) := A2.cell rfl
  have a2 : w2.cell? ⟨w.heap.size, 2, none⟩ = some (.int .i64 a.dst) := A2.cell rfl
  have a3 : w2.cell? ⟨w.heap.size, 3, none⟩ = some (.int .i64 a.good) := A2.cell rfl
  have a4 : w2.cell? ⟨w.heap.size, 4, none⟩ = some (.int .i64 a.n) := A2.cell rfl
  have a5 : w2.cell? ⟨w.heap.size, 5, none⟩ = some (.string a.text) := A2.cell rfl
  have HD : Hid _ := done_calls w2 L2 a (Nat.le_trans hf (by omega)) _ rfl
  unfold Ac.val at HD
  have HNo : Hid ((act 2 L a).1 ≠ 0 → (act 2 L a).2 = L) := act_not a
  have HOt : Hid (∀ i : Nat, (i : Int) ≠ a.who → (i : Int) ≠ a.dst → kAt (act 2 L a).2 i = kAt L i) := fun i h1 h2 => act_other a i h1 h2
  have hlr : (act 2 L a).2.length = 3 := by rw [act_len, hlen]
  have HIL : Hid _ := L1.inv
  generalize act 2 L a = r at *
  go_wp2_with fail
  refine Calls.mono HD.out ?_
  rintro e w3 ⟨rfl, L3, O3⟩
  clear HD a0 a1 a2 a3 a4 a5
  have o3 := own_offL o2 O3 hbl
  have A3 := A2.off O3 hne1
  have B3 : Below w.heap.size w w3 := O3.below hwb BB BB.size
  have HIR : Hid _ := L3.inv
  have HR : Hid _ := records_calls w3 L3
  go_wp2_with fail
  refine Calls.mono HR.out ?_
  rintro e w4 ⟨v2, rfl, o4, b4⟩
  clear HR
  have q1 := rcs_recs HIL.out (own_belowL o3 b4)
  have q2 := rcs_recs HIR.out o4
  have A4 := A3.below b4
  have B4 : Below w.heap.size w w4 := B3.trans (b4.mono B3.size)
  clear o2 o3 o4 O3 BB b4 B3 A3 A2 L1 L2 b1 b2 hW0 X0 B0
  have hl1 : (recs 2 L).length = 3 := by rw [recs_len, hlen]
  have hl2 : (recs 2 r.2).length = 3 := by rw [recs_len, hlr]
  have hrec : Hid (∀ i (h1 : i < (recs 2 L).length) (h2 : i < (recs 2 r.2).length), (recs 2 L)[i] = recOf 2 i (kAt L i) ∧ (recs 2 r.2)[i] = recOf 2 i (kAt r.2 i)) := fun i h1 h2 => ⟨recs_at h1, recs_at h2⟩
  generalize recs 2 L = R1 at *
  generalize recs 2 r.2 = R2 at *
  rcases q1 with ⟨_, hq1⟩ | ⟨g1, f1, c1, rfl, hc1⟩
  · rw [hq1] at hl1; cases hl1
  rcases q2 with ⟨_, hq2⟩ | ⟨g2, f2, c2, rfl, hc2⟩
  · rw [hq2] at hl2; cases hl2
  have HC1 : Hid _ := hc1
  have HC2 : Hid _ := hc2
  clear hc1 hc2
  have HL1 : Hid _ := hl1
  have HL2 : Hid _ := hl2
  rw [hl1, hl2]
  clear hl1 hl2
  go_wp2
  go_loopw [9] (fun i wr => ∃ k : Nat, k ≤ 3 ∧ i = .int .i64 k ∧ Below w4.heap.size w4 wr) (fun i _ => 3 - (intOf i).toNat)
  case atStart => exact ⟨0, by omega, rfl, Below.refl _ _⟩
  case round =>
    obtain ⟨k, hk, rfl, br⟩ := hrel
    by_cases hlt : k < 3
    · have hd : decide ((k : Int) < 3) = true := by simp only [decide_eq_true_eq]; omega
      obtain ⟨d1, d2, _, _⟩ := HC1.out k (by rw [HL1.out]; exact hlt)
      obtain ⟨e1, e2, _, _⟩ := HC2.out k (by rw [HL2.out]; exact hlt)
      obtain ⟨r1, r2⟩ := hrec.out k (by rw [HL1.out]; exact hlt) (by rw [HL2.out]; exact hlt)
      rw [r1] at d1 d2
      rw [r2] at e1 e2
      have hg1 := World.block_lt_of_cell? w4 _ d1
      have hg2 := World.block_lt_of_cell? w4 _ e1
      have D1 := keepCell br d1 hg1
      have D2 := keepCell br d2 hg1
      have E1 := keepCell br e1 hg2
      have E2 := keepCell br e2 hg2
      have Ar := A4.below br
      have a1 : wr.cell? ⟨w.heap.size, 1, none⟩ = some (.int .i64 a.who) := Ar.cell rfl
      have a2 : wr.cell? ⟨w.heap.size, 2, none⟩ = some (.int .i64 a.dst) := Ar.cell rfl
      have hns := fun wx => neq_self (recOf 2 k (kAt L k)) wx
      clear d1 d2 e1 e2 r1 r2
      obtain ⟨A, hA⟩ : ∃ A, ((k : Int) != a.who) = A := ⟨_, rfl⟩
      obtain ⟨D, hD⟩ : ∃ D, ((k : Int) != a.dst) = D := ⟨_, rfl⟩
      obtain ⟨E, hE⟩ : ∃ E, (r.1 != 0) = E := ⟨_, rfl⟩
      have HE : Hid (E = true → kAt r.2 k = kAt L k) := fun h => by
        rw [HNo.out (by rw [← hE] at h; simpa using h)]
      have HAD : Hid (A = true → D = true → kAt r.2 k = kAt L k) := fun h h' => HOt.out k (by rw [← hA] at h; simpa using h) (by rw [← hD] at h'; simpa using h')
      cases E
      · cases A
        · go_wp2
          go_quiet (fail)
          go_wp2
          refine ⟨⟨k + 1, by omega, by norm_cast, br.trans (drewN_below _ _ _)⟩, ?_⟩
          simp [intOf]; omega
        · cases D
          · go_wp2
            go_quiet (fail)
            go_wp2
            refine ⟨⟨k + 1, by omega, by norm_cast, br.trans (drewN_below _ _ _)⟩, ?_⟩
            simp [intOf]; omega
          · rw [HAD.out rfl rfl] at E1 E2
            generalize recOf 2 k (kAt L k) = m at *
            go_wp2
            go_quiet (fail)
            go_wp2
            refine ⟨⟨k + 1, by omega, by norm_cast, br.trans (drewN_below _ _ _)⟩, ?_⟩
            simp [intOf]; omega
      · rw [HE.out rfl] at E1 E2
        generalize recOf 2 k (kAt L k) = m at *
        cases A
        · go_wp2
          go_quiet (fail)
          go_wp2
          refine ⟨⟨k + 1, by omega, by norm_cast, br.trans (drewN_below _ _ _)⟩, ?_⟩
          simp [intOf]; omega
        · go_wp2
          go_quiet (fail)
          go_wp2
          refine ⟨⟨k + 1, by omega, by norm_cast, br.trans (drewN_below _ _ _)⟩, ?_⟩
          simp [intOf]; omega
    · have hd : decide ((k : Int) < 3) = false := by simp only [decide_eq_false_iff_not]; omega
      go_wp2_with fail
      refine (HA.out _).mono ?_
      rintro e w6 ⟨rfl, b6⟩
      go_wp2
      go_ret
      have BR := B4.trans (br.mono B4.size)
      exact ⟨rfl, BR.trans (b6.mono BR.size)⟩
end Go.Proofs.YtpbnimjcojeklaaDoor
