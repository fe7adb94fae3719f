/- awake: the chapter's example holds. -/
import Derived.Test.YtpcafjbebhcilaaGreatTm33
namespace Go.Proofs.YtpcafjbebhcilaaGreat
open Go.RowKit
set_option linter.unusedSimpArgs false
set_option linter.unusedVariables false
variable {p b x y : Nat} {S : List (Int × ByteArray)}

theorem ptC_get : ∀ (L : List (Pt × Value)) (i : Nat) (h : i < L.length), (ptC L)[i * 4]? = some (.int .i64 L[i].1.idx) ∧ (ptC L)[i * 4 + 1]? = some (.string L[i].1.key) ∧ (ptC L)[i * 4 + 2]? = some (.string L[i].1.dat) ∧ (ptC L)[i * 4 + 3]? = some L[i].2
  | [], i, h => by simp at h
  | q :: L, i, h => by
    have e : ptC (q :: L) = .int .i64 q.1.idx :: .string q.1.key :: .string q.1.dat :: q.2 :: ptC L := by simp [ptC]
    rw [e]
    match i, h with
    | 0, _ => exact ⟨rfl, rfl, rfl, rfl⟩
    | i + 1, h =>
      have ih := ptC_get L i (by simpa using h)
      refine ⟨?_, ?_, ?_, ?_⟩
      · rw [show (i + 1) * 4 = i * 4 + 1 + 1 + 1 + 1 by omega]; simp only [List.getElem?_cons_succ]; exact ih.1
      · rw [show (i + 1) * 4 + 1 = i * 4 + 1 + 1 + 1 + 1 + 1 by omega]; simp only [List.getElem?_cons_succ]; exact ih.2.1
      · rw [show (i + 1) * 4 + 2 = i * 4 + 2 + 1 + 1 + 1 + 1 by omega]; simp only [List.getElem?_cons_succ]; exact ih.2.2.1
      · rw [show (i + 1) * 4 + 3 = i * 4 + 3 + 1 + 1 + 1 + 1 by omega]; simp only [List.getElem?_cons_succ]; exact ih.2.2.2
theorem strs_lf {w : World} {v : Value} {l : List ByteArray} (h : Lf w v l) (hz : ∀ s ∈ l, s.size ≤ 32) : Strs w v l := by
  by_cases h0 : l.length = 0
  · obtain rfl := List.length_eq_zero_iff.1 h0
    obtain ⟨a, cap, e, _⟩ := h
    exact Or.inl ⟨⟨a, cap, e⟩, rfl⟩
  · obtain ⟨g, off, cap, e, _, _, hx⟩ := h.at (by omega)
    exact Or.inr ⟨g, off, cap, e, fun i hi => ⟨hx i hi, Nat.le_trans (hz _ (List.getElem_mem hi)) (by unfold maxLen; omega)⟩⟩
theorem ptsC_own {w : World} {base : Nat} {v : Value} {L : List (Pt × Value)} (h : w.ownsRow base 80 4 v L.length (ptC L)) (hs : ∀ q ∈ L, w.ownsRow base 9 1 q.2 q.1.sides.length (txC q.1.sides)) (hok : ∀ q ∈ L, ptOk q.1 = true) : PtsC w v (L.map Prod.fst) := by
  by_cases h0 : L.length = 0
  · obtain rfl := List.length_eq_zero_iff.1 h0
    obtain ⟨p, c, rfl⟩ := own_sliceM h
    exact ⟨Or.inl ⟨⟨p, c, rfl⟩, rfl⟩, fun k hk => by simp at hk⟩
  · obtain ⟨g, cap, rfl, _, _, hx⟩ := own_at h (by omega)
    have hl : (L.map Prod.fst).length = L.length := by simp
    refine ⟨Or.inr ⟨g, 0, cap, by rw [hl], fun i hi => ?_⟩, fun k hk g' off' cap' e => ?_⟩
    · have hi' : i < L.length := by omega
      obtain ⟨c0, c1, c2, c3⟩ := ptC_get L i hi'
      have ok := ptOk_parts (hok L[i] (List.getElem_mem hi'))
      have hm := hs L[i] (List.getElem_mem hi')
      have e : (L.map Prod.fst)[i] = L[i].1 := by simp
      rw [e, Nat.zero_add]
      exact ⟨L[i].2, hx _ _ c0, hx _ _ c1, hx _ _ c2, hx _ _ c3, strs_lf (lf_own hm) ok.2.2.2.2, Nat.le_trans ok.2.1 (by unfold maxLen; omega), Nat.le_trans ok.2.2.1 (by unfold maxLen; omega)⟩
    · have hi' : k < L.length := by omega
      simp only [Value.slice.injEq, Option.some.injEq, Addr.mk.injEq, and_true] at e
      obtain ⟨⟨rfl, rfl⟩, _⟩ := e
      obtain ⟨c0, c1, c2, c3⟩ := ptC_get L k hi'
      have e : (L.map Prod.fst)[k] = L[k].1 := by simp
      rw [e, Nat.zero_add]
      exact ⟨L[k].2, hx _ _ c3, lf_own (hs L[k] (List.getElem_mem hi'))⟩

def exL : List Rc := [⟨⟨#[97]⟩, ⟨#[49]⟩⟩, ⟨⟨#[99]⟩, ⟨#[51]⟩⟩]
theorem exRise : riseR exL = 0 := by decide +kernel
theorem exKb : isK ⟨#[98]⟩ = true := by decide +kernel
theorem exKa : isK ⟨#[97]⟩ = true := by decide +kernel
theorem exLen : exL.length = 2 := rfl
theorem exSpot {r : Nat} (h : Spot exL ⟨#[98]⟩ r) : r = 1 := by
  have h1 := h.le
  rw [exLen] at h1
  by_cases h2 : r = 0
  · have h3 : lsB ⟨#[97]⟩ ⟨#[98]⟩ = false := h.hi 0 (by rw [exLen]; omega) (by omega)
    have h4 : lsB ⟨#[97]⟩ ⟨#[98]⟩ = true := by decide +kernel
    rw [h4] at h3; cases h3
  · by_cases h5 : r = 2
    · have h3 : lsB ⟨#[99]⟩ ⟨#[98]⟩ = true := h.lo 1 (by rw [exLen]; omega) (by omega)
      have h4 : lsB ⟨#[99]⟩ ⟨#[98]⟩ = false := by decide +kernel
      rw [h4] at h3; cases h3
    · omega
theorem exHas : hasAt exL 1 ⟨#[98]⟩ = false := by decide +kernel
theorem exPaths {T ls : List ByteArray} {ts : List Pt} (h : PathsOk T exL ls ⟨#[98]⟩ 1 ts) : ∃ t u, ts = [t, u] ∧ t.key = ⟨#[97]⟩ := by
  obtain ⟨A, B, rfl, hA, hB⟩ := h.2 exHas
  obtain ⟨t, rfl, _, m, hm, hk, _⟩ := hA.2 (by omega)
  obtain ⟨u, rfl, _⟩ := hB.2 (by rw [exLen]; omega)
  refine ⟨t, u, rfl, ?_⟩
  have e : exL[1 - 1]? = some ⟨⟨#[97]⟩, ⟨#[49]⟩⟩ := rfl
  rw [e] at hm
  injection hm with hm
  rw [hk, ← hm]
theorem dig_ne (T : List ByteArray) (s : ByteArray) : dig T s ≠ ⟨#[]⟩ := fun e => by
  have h := dig_size T s
  rw [e] at h
  cases h

set_option maxHeartbeats 4000000 in
set_option maxRecDepth 100000 in
theorem awake_calls (w : World) : Calls Tryz.prog 13 #[] w fun e w' => e = .returned (.bool true) ∧ Below w.heap.size w w' := by
  have HN : Hid _ := newBook_calls w
  go_enter Tryz.func13, Tryz.ntmps13
  go_wp2_with fail
  refine Calls.mono HN.out ?_
  rintro e w1 ⟨p, b, x, y, rfl, hB, b1, g1, g2, g3, g4⟩
  obtain ⟨W2, hW2, X2, B2⟩ : ∃ W2, w1.alloc (.cells #[.string ⟨#[97]⟩, .string ⟨#[49]⟩, .string ⟨#[99]⟩, .string ⟨#[51]⟩] 47) = W2 ∧ Blk W2 w1.heap.size #[.string ⟨#[97]⟩, .string ⟨#[49]⟩, .string ⟨#[99]⟩, .string ⟨#[51]⟩] 47 ∧ Below w1.heap.size w1 W2 :=
    ⟨_, rfl, blk_new _ _ _ _ rfl, by go_grown⟩
  have hR : Rcs W2 (.slice (some ⟨w1.heap.size, 0, none⟩) 2 2) exL := by
    refine Or.inr ⟨w1.heap.size, 0, 2, rfl, fun i hi => ?_⟩
    have hi : i < 2 := hi
    rcases (by omega : i = 0 ∨ i = 1) with rfl | rfl
    · exact ⟨X2.cell rfl, X2.cell rfl, by show 1 ≤ maxLen; unfold maxLen; decide, by show 1 ≤ maxLen; unfold maxLen; decide⟩
    · exact ⟨X2.cell rfl, X2.cell rfl, by show 1 ≤ maxLen; unfold maxLen; decide, by show 1 ≤ maxLen; unfold maxLen; decide⟩
  have hB2 := hB.below B2
  have HR : Hid _ := root_calls _ exL W2 hR (by rw [exLen]; omega) hB2 (by simp) (by simp)
  have HHR : Hid _ := hR
  clear hR X2
  go_wp2_with fail
  refine Calls.mono HR.out ?_
  rintro e w3 P3
  obtain ⟨r, T3, rfl, R3, G3⟩ := P3.good exRise
  have l3 := G3.len
  rw [exLen] at l3
  have hrne : r ≠ ⟨#[]⟩ := by obtain ⟨_, _, _, _, _, rfl⟩ := R3; exact dig_ne _ _
  have HP : Hid _ := proveRecs_calls _ exL ⟨#[98]⟩ w3 (Rcs.off2 HHR.out hB2 G3.off) (by rw [exLen]; omega) G3.book (by simp) (by simp at l3; omega)
  have b3 : Below w.heap.size w w3 := G3.off.below g3 g4 (chain b1 B2) (chain b1 B2).size
  have HR3 : Hid _ := R3
  have HG3 : Hid _ := G3
  clear P3 R3 G3 HR HHR hB2 hB hW2 B2 b1
  go_wp2_with fail
  refine Calls.mono HP.out ?_
  rintro e w4 P4
  obtain ⟨rr, L, ls, T4, pv, cv, hlv, hsp, hpo, rfl, ho, hss, G4⟩ := P4.good exRise exKb
  obtain rfl := exSpot hsp
  obtain ⟨t, u, htu, htk⟩ := exPaths hpo
  have hL2 : L.length = 2 := by have := congrArg List.length htu; simpa using this
  obtain ⟨hn4, hzz⟩ := riseR_ok exRise
  have hfit := hpo.fits hlv hn4 hzz
  have hshow := hpo.shows hsp
  have hled := hpo.led hlv (RootOf.ext G4.ext HR3.out)
  have hoks : ∀ q ∈ L, ptOk q.1 = true := fun q hq => by
    obtain ⟨i, hi⟩ := hpo.each q.1 (List.mem_map.2 ⟨q, hq, rfl⟩)
    exact (hi.ok hlv hn4 hzz).1
  have hpc := ptsC_own ho hss hoks
  have l4 := G4.len
  rw [exLen] at l4
  have b4 : Below w.heap.size w w4 := G4.off.below g3 g4 b3 b3.size
  obtain ⟨W5, hW5, X5, B5⟩ : ∃ W5, w4.alloc (.cells #[.int .i64 exL.length, .slice pv L.length cv] 36) = W5 ∧ Blk W5 w4.heap.size #[.int .i64 exL.length, .slice pv L.length cv] 36 ∧ Below w4.heap.size w4 W5 :=
    ⟨_, rfl, blk_new _ _ _ _ rfl, by go_grown⟩
  have hshow2 : showsB ⟨exL.length, L.map Prod.fst⟩ ⟨#[97]⟩ = false := by
    rw [htu]
    show (decide (u.idx = t.idx + 1) && lsB t.key ⟨#[97]⟩ && lsB ⟨#[97]⟩ u.key) = false
    rw [htk, show lsB ⟨#[97]⟩ ⟨#[97]⟩ = false from less_irr _]
    simp
  have hthere : thereB ⟨exL.length, L.map Prod.fst⟩ ⟨#[98]⟩ = false := by rw [htu]; rfl
  have e0 : W5.cell? ⟨w4.heap.size, 0, none⟩ = some (.int .i64 exL.length) := X5.cell rfl
  have e1 : W5.cell? ⟨w4.heap.size, 1, none⟩ = some (.slice pv L.length cv) := X5.cell rfl
  have HV : Hid _ := fun (k : ByteArray) (T : List ByteArray) (wx : World) (h : Book wx p b x y T []) (hp : PtsC wx (.slice pv L.length cv) (L.map Prod.fst)) (hT : T.length < 900000) => verify_calls ⟨exL.length, L.map Prod.fst⟩ (.slice pv L.length cv) r k wx hp h (by simp) hT
  have hB5 := G4.book.below B5
  have hpc5 := hpc.below B5
  have d2 : decide ((L.length : Int) = 2) = true := decide_eq_true (by omega)
  have d2' : ((L.length : Int) == 2) = true := d2
  have dr2 : (r.toList == (⟨#[]⟩ : ByteArray).toList) = false := (strEq r ⟨#[]⟩).trans (decide_eq_false hrne)
  have dr : (r.toList == ([] : List UInt8)) = false := by
    rw [show (⟨#[]⟩ : ByteArray).toList = [] by decide +kernel] at dr2
    exact dr2
  have HF : Hid _ := hfit
  have HS1 : Hid _ := hshow
  have HS2 : Hid _ := hshow2
  have HT : Hid _ := hthere
  have HLD : Hid _ := hled
  have hl4 : T4.length < 100000 := by simp at l3; omega
  clear hfit hshow hshow2 hthere hled hpc ho hss hoks hpo hsp hlv htu htk P4 HP HR3 HG3 G4 X5 hL2 hn4 hzz l3 l4
  go_wp2_with fail
  refine (HV.out _ _ _ hB5 hpc5 (by omega)).mono ?_
  rintro e w6 P6
  obtain ⟨T6, G6, hx⟩ := P6.good exKb HF.out HS1.out
  have hx2 : e = .returned (.tuple #[.string (valB ⟨exL.length, L.map Prod.fst⟩ ⟨#[98]⟩), .bool false, .int .i64 0]) := by
    rcases hx with ⟨hn, _⟩ | ⟨_, he⟩
    · exact (LedAll.not (LedAll.ext (show LedAll T4 ⟨exL.length, L.map Prod.fst⟩ r from HLD.out) G6.ext) hn).elim
    · rw [he, HT.out]
  subst hx2
  generalize valB ⟨exL.length, L.map Prod.fst⟩ ⟨#[98]⟩ = V at *
  have f0 := keepCell2 hB5 G6.off e0
  have f1 := keepCell2 hB5 G6.off e1
  have hpc6 := hpc5.off2 hB5 G6.off
  have b6 : Below w.heap.size w w6 := G6.off.below g3 g4 (chain b4 B5) (chain b4 B5).size
  have l6 := G6.len
  have hB6 := G6.book
  clear P6 hx G6 e0 e1 hpc5 hB5 hW5
  go_wp2_with fail
  refine (HV.out _ _ _ hB6 hpc6 (by omega)).mono ?_
  rintro e w7 P7
  obtain ⟨he, b7⟩ := P7.bad exKa (by rw [HS2.out, Bool.and_false])
  subst he
  have h0 := keepCell b7 f0
  have h1 := keepCell b7 f1
  have b77 := chain b6 b7
  clear P7 HV HF HS1 HS2 HT HLD hB6 hpc6 f0 f1
  go_wp2
  go_ret
  exact ⟨rfl, b77⟩
end Go.Proofs.YtpcafjbebhcilaaGreat
