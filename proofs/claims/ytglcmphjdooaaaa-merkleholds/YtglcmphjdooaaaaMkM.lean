/- MerkleHolds' walk: each proof that is made is accepted against the root, and tells what there is. -/
import Derived.Test.YtglcmphjdooaaaaMkL
namespace Go.Proofs.Ytglcmphjdooaaaa
open Go.RowKit
set_option linter.unusedSimpArgs false
set_option linter.unusedVariables false

set_option maxHeartbeats 4000000 in
set_option maxRecDepth 100000 in
theorem merkleHolds_calls (v : Value) (l : List Rc) (key : ByteArray) (w : World) (hl : RcsC w v l) :
    Calls Try.prog 5 #[v, .string key] w fun e w' => e = .returned (.bool true) ∧ Below w.heap.size w w' := by
  have HN : Hid _ := newBook_calls w
  have HL : Hid _ := hl
  clear hl
  go_enter Try.func5, Try.ntmps5
  go_wp2_with fail
  refine Calls.mono HN.out ?_
  rintro e w1 ⟨p, b, x, y, rfl, hB, b1, g1, g2, g3, g4⟩
  go_wp2_with fail
  refine (few_calls v l w1 (RcsC.below HL.out b1)).mono ?_
  rintro e w2 ⟨v1, rfl, hl1, rfl⟩
  have zl : (l.take 200).length ≤ 200 := by rw [List.length_take]; omega
  generalize l.take 200 = l1 at *
  have HR : Hid _ := root_calls v1 l1 w2 hl1.1 (by omega) hB (by simp) (by simp)
  have HL1 : Hid _ := hl1.1
  clear hl1 HL HN
  have HI : Hid _ := fun (wx : World) (h : Rcs wx v1 l1) => rise_ref v1 l1 wx h (by omega)
  have HF : Hid _ := refFits_calls key
  have HA : Hid _ := awake_calls
  go_wp2_with fail
  refine Calls.mono HR.out ?_
  rintro e w4 P4
  by_cases r1 : riseR l1 = 0
  · obtain ⟨r, T4, rfl, R4, G4⟩ := P4.good r1
    have l4 := G4.len
    simp only [List.length_nil, Nat.zero_add] at l4
    have b4 : Below w.heap.size w w4 := G4.off.below g3 g4 b1 b1.size
    have hL4 := Rcs.off2 HL1.out hB G4.off
    have HP : Hid _ := proveRecs_calls v1 l1 key w4 hL4 (by omega) G4.book (by simp) (by omega)
    have HL4 : Hid _ := hL4
    have HR4 : Hid _ := R4
    have HB4 : Hid _ := G4.book
    clear P4 G4 R4 HL1 HR hL4
    go_wp2_with fail
    refine Calls.mono HP.out ?_
    rintro e w5 P5
    cases hk : isK key
    · obtain ⟨he, b5⟩ := P5.field r1 hk
      obtain ⟨n0, q0, m0, cp0, rfl⟩ : ∃ (n0 : Int) (q0 : Option Addr) (m0 cp0 : Nat), e = .returned (.tuple #[.agg #[.int .i64 n0, .slice q0 m0 cp0], .int .i64 14]) := ⟨0, none, 0, 0, he⟩
      have c1 := HI.out
      have c2 := HF.out
      rw [r1] at c1
      rw [hk] at c2
      have C1 : Hid _ := fun wx (hb : Below w5.heap.size w5 wx) => c1 wx ((Rcs.below HL4.out b5).below hb)
      have C2 : Hid _ := c2
      clear c1 c2 HI HF P5 HP HL4 HR4 HB4
      obtain ⟨W6, hW6, B6⟩ : ∃ W6, w5.alloc (.cells #[.int .i64 n0, .slice q0 m0 cp0] 35) = W6 ∧ Below w5.heap.size w5 W6 := ⟨_, rfl, by go_grown⟩
      go_wp2_with fail
      refine (C1.out _ B6).mono ?_
      rintro e w7 ⟨rfl, b7⟩
      go_wp2_with fail
      refine (C2.out _).mono ?_
      rintro e w8 ⟨rfl, rfl⟩
      go_wp2_with fail
      refine (HA.out _).mono ?_
      rintro e w9 ⟨rfl, b9⟩
      go_wp2
      go_ret
      exact ⟨rfl, chain (chain (chain (chain b4 b5) B6) b7) b9⟩
    · obtain ⟨rr, L, ls, T5, pv, cv, hlv, hsp, hpo, rfl, ho, hss, G5⟩ := P5.good r1 hk
      have l5 := G5.len
      have b5 : Below w.heap.size w w5 := G5.off.below g3 g4 b4 b4.size
      obtain ⟨hn4, hzz⟩ := riseR_ok r1
      have hfit := hpo.fits hlv hn4 hzz
      have hshow := hpo.shows hsp
      have hR5 := RootOf.ext G5.ext HR4.out
      have hled := hpo.led hlv hR5
      have htr : Truth l1 key (valB ⟨l1.length, L.map Prod.fst⟩ key) (thereB ⟨l1.length, L.map Prod.fst⟩ key) := sound (by omega) hR5 r1 hfit hshow hled
      have hoks : ∀ q ∈ L, ptOk q.1 = true := fun q hq => by
        obtain ⟨i, hi⟩ := hpo.each q.1 (List.mem_map.2 ⟨q, hq, rfl⟩)
        exact (hi.ok hlv hn4 hzz).1
      have hpc := ptsC_own ho hss hoks
      obtain ⟨W6, hW6, X6, B6⟩ : ∃ W6, w5.alloc (.cells #[.int .i64 l1.length, .slice pv L.length cv] 35) = W6 ∧ Blk W6 w5.heap.size #[.int .i64 l1.length, .slice pv L.length cv] 35 ∧ Below w5.heap.size w5 W6 :=
        ⟨_, rfl, blk_new _ _ _ _ rfl, by go_grown⟩
      have e0 : W6.cell? ⟨w5.heap.size, 0, none⟩ = some (.int .i64 l1.length) := X6.cell rfl
      have e1 : W6.cell? ⟨w5.heap.size, 1, none⟩ = some (.slice pv L.length cv) := X6.cell rfl
      have hB6 := G5.book.below B6
      have HV : Hid _ := verify_calls ⟨l1.length, L.map Prod.fst⟩ (.slice pv L.length cv) r key W6 (hpc.below B6) hB6 (by simp) (by omega)
      have HL6 : Hid _ := (Rcs.off2 HL4.out HB4.out G5.off).below B6
      have HRi : Hid _ := rising_of r1
      have HF1 : Hid _ := hfit
      have HS1 : Hid _ := hshow
      have HLD : Hid _ := hled
      have HTR : Hid _ := htr
      clear hfit hshow hled htr hpc ho hss hoks hpo hsp hlv P5 HP HR4 HB4 HL4 hR5 X6 G5 hzz HI HF
      go_wp2_with fail
      refine Calls.mono HV.out ?_
      rintro e w7 P7
      obtain ⟨T7, G7, hx⟩ := P7.good hk HF1.out HS1.out
      have hx2 : e = .returned (.tuple #[.string (valB ⟨l1.length, L.map Prod.fst⟩ key), .bool (thereB ⟨l1.length, L.map Prod.fst⟩ key), .int .i64 0]) := by
        rcases hx with ⟨hn, _⟩ | ⟨_, he⟩
        · exact (LedAll.not (LedAll.ext (show LedAll T5 ⟨l1.length, L.map Prod.fst⟩ r from HLD.out) G7.ext) hn).elim
        · exact he
      subst hx2
      have b7 : Below w.heap.size w w7 := G7.off.below g3 g4 (chain b5 B6) (chain b5 B6).size
      have HTT : Hid _ := truth_calls v1 l1 key _ _ w7 (Rcs.off2 HL6.out hB6 G7.off) (by omega) HRi.out HTR.out
      clear P7 hx G7 HV HF1 HS1 HLD HTR HL6 hB6 e0 e1 hW6
      generalize valB ⟨l1.length, L.map Prod.fst⟩ key = V at *
      generalize thereB ⟨l1.length, L.map Prod.fst⟩ key = B at *
      go_wp2_with fail
      refine Calls.mono HTT.out ?_
      rintro e w8 ⟨rfl, rfl⟩
      go_wp2_with fail
      refine (HA.out _).mono ?_
      rintro e w9 ⟨rfl, b9⟩
      go_wp2
      go_ret
      exact ⟨rfl, chain b7 b9⟩
  · obtain ⟨rfl, b4⟩ := P4.bad r1
    have hL4 := Rcs.below HL1.out b4
    have hB4 := hB.below b4
    have bb4 := chain b1 b4
    have HP : Hid _ := proveRecs_calls v1 l1 key w4 hL4 (by omega) hB4 (by simp) (by simp)
    obtain ⟨E, hE⟩ : ∃ E, riseR l1 = E := ⟨_, rfl⟩
    have hE0 : E ≠ 0 := by rw [← hE]; exact r1
    have d0 : decide (E = 0) = false := decide_eq_false hE0
    have d0' : (E == 0) = false := d0
    have HE : Hid _ := hE
    have HL4 : Hid _ := hL4
    have HBAD : Hid _ := r1
    simp only [hE]
    clear P4 HL1 HR r1 hE hL4
    go_wp2_with fail
    refine Calls.mono HP.out ?_
    rintro e w5 P5
    obtain ⟨he, b5⟩ := P5.bad HBAD.out
    rw [HE.out] at he
    obtain ⟨n0, q0, m0, cp0, rfl⟩ : ∃ (n0 : Int) (q0 : Option Addr) (m0 cp0 : Nat), e = .returned (.tuple #[.agg #[.int .i64 n0, .slice q0 m0 cp0], .int .i64 E]) := ⟨0, none, 0, 0, he⟩
    have c1 := HI.out
    rw [HE.out] at c1
    have C1 : Hid _ := fun wx (hb : Below w5.heap.size w5 wx) => c1 wx ((Rcs.below HL4.out b5).below hb)
    clear c1 P5 HP HL4 HI HBAD
    obtain ⟨W6, hW6, B6⟩ : ∃ W6, w5.alloc (.cells #[.int .i64 n0, .slice q0 m0 cp0] 35) = W6 ∧ Below w5.heap.size w5 W6 := ⟨_, rfl, by go_grown⟩
    go_wp2_with fail
    refine (C1.out _ B6).mono ?_
    rintro e w7 ⟨rfl, b7⟩
    go_wp2_with fail
    refine (HA.out _).mono ?_
    rintro e w9 ⟨rfl, b9⟩
    go_wp2
    go_ret
    exact ⟨rfl, chain (chain (chain (chain bb4 b5) B6) b7) b9⟩
end Go.Proofs.Ytglcmphjdooaaaa
