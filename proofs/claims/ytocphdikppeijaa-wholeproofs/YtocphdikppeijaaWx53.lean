/- Does a proof go over at all? It does. -/
import Derived.Test.YtocphdikppeijaaWx52
import Derived.Test.YtocphdikppeijaaWx44
namespace Go.Proofs.Ytocphdikppeijaa
open Go.RowKit
set_option linter.unusedSimpArgs false
set_option linter.unusedVariables false

variable {p b x y : Nat} {T : List ByteArray} {S : List (Int × ByteArray)}
/-- What was read of bytes, as paths whose sides can be cut. -/
theorem ptsC_of {w : World} {base : Nat} {v : Value} {ps : List (Pt × Value)} (h : PtsOwn w base v ps) (hok : ∀ q ∈ ps, ptOk q.1 = true) : PtsC w v (ps.map Prod.fst) :=
  ptsC_own h.row h.each hok
theorem pfOk_of {q : Pf} (h : pfFits q = true) : pfOk q = true := (pfFits_parts h).1
theorem pfOk_each {q : Pf} (h : pfOk q = true) {ps : List (Pt × Value)} (e : q.paths = ps.map Prod.fst) : ∀ z ∈ ps, ptOk z.1 = true := fun z hz =>
  (pfOk_parts h).2.2 z.1 (by rw [e]; exact List.mem_map.2 ⟨z, hz, rfl⟩)
theorem pts_ok {w : World} {base : Nat} {v : Value} {L : List (Pt × Value)} (h : w.ownsRow base 76 4 v L.length (ptC L)) (hs : ∀ q ∈ L, w.ownsRow base 9 1 q.2 q.1.sides.length (txC q.1.sides)) (hok : ∀ q ∈ L, ptOk q.1 = true) : Pts w v (L.map Prod.fst) := (ptsC_own h hs hok).1
theorem root_size {T : List ByteArray} {l : List Rc} {r : ByteArray} (h : RootOf T l r) : 1 ≤ r.size ∧ r.size ≤ 32 := by
  obtain ⟨_, _, _, _, _, rfl⟩ := h
  rw [dig_size]
  decide
/-- What a proof that was made tells where it is verified: the value and whether it is there. -/
theorem told_true {T : List ByteArray} {r key : ByteArray} {q : Pf} {e : Ending} {p b x y : Nat} {S : List (Int × ByteArray)} {w w' : World} (hk : isK key = true) (hf : pfFits q = true) (hs : showsB q key = true) (hl : LedAll T q r) (h : VerifyP x y p b T S w q r key e w') :
    ∃ T', Grew x y p b T S w 40 T' w' ∧ e = .returned (.tuple #[.string (valB q key), .bool (thereB q key), .int .i64 0]) := by
  obtain ⟨T7, G7, hx⟩ := h.good hk hf hs
  refine ⟨T7, G7, ?_⟩
  rcases hx with ⟨hn, _⟩ | ⟨_, he⟩
  · exact (LedAll.not (LedAll.ext hl G7.ext) hn).elim
  · exact he

def exW : List Rc := [⟨⟨#[97]⟩, ⟨#[49]⟩⟩]
theorem exWRise : riseR exW = 0 := by decide +kernel
theorem exWK : isK ⟨#[97]⟩ = true := by decide +kernel
theorem exWSg : isSg 2 = true := by decide +kernel
theorem exWTrue {v : ByteArray} {h : Bool} (t : Truth exW ⟨#[97]⟩ v h) : v = ⟨#[49]⟩ ∧ h = true := by
  rcases t with ⟨_, _, h2⟩ | ⟨h1, m, hm, _, hv⟩
  · exact absurd rfl (h2 ⟨⟨#[97]⟩, ⟨#[49]⟩⟩ (by simp [exW]))
  · have : m = ⟨⟨#[97]⟩, ⟨#[49]⟩⟩ := by simpa [exW] using hm
    rw [this] at hv
    exact ⟨hv.symm, h1⟩
set_option maxHeartbeats 4000000 in
set_option maxRecDepth 100000 in
theorem works_calls (w : World) : Calls Try.prog 9 #[] w fun e w' => e = .returned (.bool true) ∧ Below w.heap.size w w' := by
  have HN : Hid _ := newBook_calls w
  go_enter Try.func9, Try.ntmps9
  go_wp2_with fail
  refine Calls.mono HN.out ?_
  rintro e w1 ⟨p, b, x, y, rfl, hB, b1, g1, g2, g3, g4⟩
  obtain ⟨W2, hW2, X2, B2⟩ : ∃ W2, w1.alloc (.cells #[.string ⟨#[97]⟩, .string ⟨#[49]⟩] 43) = W2 ∧ Blk W2 w1.heap.size #[.string ⟨#[97]⟩, .string ⟨#[49]⟩] 43 ∧ Below w1.heap.size w1 W2 :=
    ⟨_, rfl, blk_new _ _ _ _ rfl, by go_grown⟩
  have hR : Rcs W2 (.slice (some ⟨w1.heap.size, 0, none⟩) 1 1) exW := by
    refine Or.inr ⟨w1.heap.size, 0, 1, rfl, fun i hi => ?_⟩
    have hi : i < 1 := hi
    obtain rfl : i = 0 := by omega
    exact ⟨X2.cell rfl, X2.cell rfl, by show 1 ≤ maxLen; unfold maxLen; decide, by show 1 ≤ maxLen; unfold maxLen; decide⟩
  have hB2 := hB.below B2
  have HR : Hid _ := root_calls _ exW W2 hR (by decide) hB2 (by simp) (by simp)
  have HHR : Hid _ := hR
  clear hR X2
  go_wp2_with fail
  refine Calls.mono HR.out ?_
  rintro e w3 P3
  obtain ⟨r, T3, rfl, R3, G3⟩ := P3.good exWRise
  have l3 : T3.length ≤ 3 := G3.len
  have HP : Hid _ := proveRecs_calls _ exW ⟨#[97]⟩ w3 (Rcs.off2 HHR.out hB2 G3.off) (by decide) G3.book (by simp) (by omega)
  have b3 : Below w.heap.size w w3 := G3.off.below g3 g4 (chain b1 B2) (chain b1 B2).size
  have HR3 : Hid _ := R3
  clear P3 R3 G3 HR HHR hB2 hB hW2 B2 b1
  go_wp2_with fail
  refine Calls.mono HP.out ?_
  rintro e w4 P4
  obtain ⟨rr, L, ls, T4, pv, cv, hlv, hsp, hpo, rfl, ho, hss, G4⟩ := P4.good exWRise exWK
  obtain ⟨hn4, hzz⟩ := riseR_ok exWRise
  have hfit := hpo.fits hlv hn4 hzz
  have hshow := hpo.shows hsp
  have hR4 := RootOf.ext G4.ext HR3.out
  have hled := hpo.led hlv hR4
  have l4 := G4.len
  have htr := sound (show T4.length < 1000000 by simp [exW] at l4; omega) hR4 exWRise hfit hshow hled
  obtain ⟨t1, t2⟩ := exWTrue htr
  have hoks : ∀ q ∈ L, ptOk q.1 = true := fun q hq => by
    obtain ⟨i, hi⟩ := hpo.each q.1 (List.mem_map.2 ⟨q, hq, rfl⟩)
    exact (hi.ok hlv hn4 hzz).1
  have hpc := pts_ok ho hss hoks
  have b4 : Below w.heap.size w w4 := G4.off.below g3 g4 b3 b3.size
  have hl4 : T4.length < 100000 := by simp [exW] at l4; omega
  obtain ⟨Q, hQ⟩ : ∃ Q : Pf, (⟨exW.length, L.map Prod.fst⟩ : Pf) = Q := ⟨_, rfl⟩
  have hQc : Q.cnt = exW.length := by rw [← hQ]
  have hQp : Q.paths = L.map Prod.fst := by rw [← hQ]
  rw [hQ] at hfit hshow hled t1 t2
  rw [← hQp] at hpc
  rw [← hQc]
  obtain ⟨W5, hW5, X5, B5⟩ : ∃ W5, w4.alloc (.cells #[.int .i64 Q.cnt, .slice pv L.length cv] 30) = W5 ∧ Blk W5 w4.heap.size #[.int .i64 Q.cnt, .slice pv L.length cv] 30 ∧ Below w4.heap.size w4 W5 :=
    ⟨_, rfl, blk_new _ _ _ _ rfl, by go_grown⟩
  have e0 : W5.cell? ⟨w4.heap.size, 0, none⟩ = some (.int .i64 Q.cnt) := X5.cell rfl
  have e1 : W5.cell? ⟨w4.heap.size, 1, none⟩ = some (.slice pv L.length cv) := X5.cell rfl
  have hB5 := G4.book.below B5
  have HC : Hid _ := carried_calls 2 r Q pv L.length cv W5 hB5 (by simp) exWSg (root_size hR4) (hpc.below B5) (pfOk_of hfit)
  have HF : Hid _ := hfit
  have HS1 : Hid _ := hshow
  have HLD : Hid _ := hled
  have HQ : Hid _ := (⟨t1, t2⟩ : _ ∧ _)
  have b5 := chain b4 B5
  unfold Pf.val at HC
  clear hfit hshow hled hpc ho hss hoks hpo hsp hlv P4 HP HR3 G4 X5 hn4 hzz l3 l4 htr t1 t2 hQ hQc hQp hR4 hB5 B5 b4
  go_wp2_with fail
  refine Calls.mono HC.out ?_
  rintro e w6 ⟨lv, ps, S6, rfl, hps, hpo6, K6, s6, o6⟩
  obtain ⟨g6, c6, rfl⟩ := own_slice hpo6.row
  have b6 : Below w.heap.size w w6 := o6.below g3 g4 b5 b5.size
  obtain ⟨W7, hW7, X7, B7⟩ : ∃ W7, w6.alloc (.cells #[.int .i64 Q.cnt, .slice g6 ps.length c6] 30) = W7 ∧ Blk W7 w6.heap.size #[.int .i64 Q.cnt, .slice g6 ps.length c6] 30 ∧ Below w6.heap.size w6 W7 :=
    ⟨_, rfl, blk_new _ _ _ _ rfl, by go_grown⟩
  have f0 : W7.cell? ⟨w6.heap.size, 0, none⟩ = some (.int .i64 Q.cnt) := X7.cell rfl
  have f1 : W7.cell? ⟨w6.heap.size, 1, none⟩ = some (.slice g6 ps.length c6) := X7.cell rfl
  have hpc6 := ptsC_of hpo6 (pfOk_each (pfOk_of HF.out) hps)
  rw [← hps] at hpc6
  have HV : Hid _ := verify_calls Q (.slice g6 ps.length c6) r ⟨#[97]⟩ W7 (hpc6.below B7) (K6.below B7) (by simp at s6; omega) (by omega)
  unfold Pf.val at HV
  have b7 := chain b6 B7
  clear hpc6 hpo6 hps X7 K6 o6 B7 b6 hW5 e0 e1
  go_wp2_with fail
  refine Calls.mono HV.out ?_
  rintro e w8 P8
  obtain ⟨T8, G8, rfl⟩ := told_true exWK HF.out HS1.out HLD.out P8
  have b8 : Below w.heap.size w w8 := G8.off.below g3 g4 b7 b7.size
  rw [HQ.out.1, HQ.out.2]
  clear P8 G8 HV HC HF HS1 HLD HQ hW7 f0 f1
  go_wp2
  go_ret
  exact ⟨rfl, b8⟩
end Go.Proofs.Ytocphdikppeijaa
