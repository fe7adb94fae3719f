/- WireReads for every text: what it answers. -/
import Derived.Test.YtcldfclbpeccjaaBdO
import Derived.Test.YtcldfclbpeccjaaSame
import Derived.Test.YtcldfclbpeccjaaAwake
namespace Go.Proofs.Ytcldfclbpeccjaa
open Go.RowKit
set_option linter.unusedVariables false
set_option linter.unusedSimpArgs false

theorem sameB_self' (b : Bd) : sameB b b = true := (sameB_iff b b).2 rfl
theorem own_set {w : World} {base n z g o : Nat} {t : TypeId} {v u : Value} {xs : List Value} (h : w.ownsRow base t z v n xs) (hv : v.ownBlock = some g) : ∃ xs', (w.setCell ⟨g, o, none⟩ u).ownsRow base t z v n xs' := by
  obtain ⟨h1, h2⟩ := h
  rcases h2 with ⟨rfl, _⟩ | ⟨g', cap, cur, rfl, hb, hh, hc, hm, hs, ht⟩
  · simp [Value.ownBlock] at hv
  · simp [Value.ownBlock] at hv
    subst hv
    refine ⟨(cur.setIfInBounds o u).toList.take (n * z), ?_, Or.inr ⟨g', cap, cur.setIfInBounds o u, rfl, hb, ?_, hc, hm, by simpa using hs, rfl⟩⟩
    · rw [List.length_take]
      have : (cur.setIfInBounds o u).toList.length = cap * z := by simpa using hs
      rw [this]
      exact Nat.min_eq_left (Nat.mul_le_mul_right _ hc)
    · simp [World.setCell, Array.getElem?_modify, hh]
theorem own_there {w : World} {base n z g : Nat} {t : TypeId} {v : Value} {xs : List Value} (h : w.ownsRow base t z v n xs) (hv : v.ownBlock = some g) (o : Nat) (ho : o < n * z) : (∃ u, w.cell? ⟨g, o, none⟩ = some u) ∧ w.frozen? ⟨g, o, none⟩ = false := by
  obtain ⟨h1, h2⟩ := h
  rcases h2 with ⟨rfl, _⟩ | ⟨g', cap, cur, rfl, hb, hh, hc, hm, hs, ht⟩
  · simp [Value.ownBlock] at hv
  · simp [Value.ownBlock] at hv
    subst hv
    have hlt : o < cur.size := by rw [hs]; exact Nat.lt_of_lt_of_le ho (Nat.mul_le_mul_right _ hc)
    exact ⟨⟨cur[o], by simp [World.cell?, hh, hlt]⟩, by simp [World.frozen?, hh]⟩

/-- What a reading of a body gives, without its cases. -/
theorem gotBd_form (s : ByteArray) : ∃ (q : Bd) (er : Int), q.list.length ≤ 64 ∧ (∀ m ∈ q.list, m.body.size ≤ maxLen ∧ m.sig.size ≤ maxLen) ∧ ∀ (w : World) (e : Ending) (w' : World), ReadsO (ofR s) w e w' → ∃ v, e = .returned (.tuple #[q.val v, .int .i64 er]) ∧ w'.ownsRow w.heap.size 35 3 v q.list.length (sgCells q.list) ∧ Below w.heap.size w w' := by
  cases h : ofR s with
  | error er => exact ⟨zeroBd, er, by simp [zeroBd], fun m hm => by simp [zeroBd] at hm, fun w e w' ⟨h1, h2⟩ => ⟨.slice none 0 0, h1, World.ownsRow_nil _ _ _ _, h2⟩⟩
  | ok q =>
    have hl : q.list.length ≤ 64 ∧ ∀ m ∈ q.list, m.body.size ≤ 1048576 ∧ m.sig.size ≤ 1048576 := by
      unfold ofR at h
      split at h
      · cases h
      · split at h
        · cases h
        · rename_i b' nx hr
          have hle := rdBd_le hr
          split at h
          · cases h
          · split at h
            · cases h; exact ⟨hle.2.2.2.1, hle.2.2.2.2⟩
            · cases h
    exact ⟨q, 0, hl.1, fun m hm => ⟨Nat.le_trans (hl.2 m hm).1 (by unfold maxLen; decide), Nat.le_trans (hl.2 m hm).2 (by unfold maxLen; decide)⟩, fun w e w' ⟨v, h1, h2, h3⟩ => ⟨v, h1, h2, h3⟩⟩

abbrev bdC (b : Bd) (lv : Value) : Array Value := #[.int .i64 b.kind, .int .i64 b.view, .int .i64 b.seq, .int .i64 b.client, .int .i64 b.stamp, .string b.digest, .string b.text, lv]

set_option maxRecDepth 100000 in
set_option maxHeartbeats 4000000 in
theorem readsLaw_calls (s : ByteArray) (w : World) (hs : s.size ≤ maxLen) :
    Calls Try.prog 4 #[.string s] w fun e w' => e = .returned (.bool true) ∧ Below w.heap.size w w' := by
  have hnot : ∀ (x : Bool) (w : World), (Op.unary .not (.bool x)).run Try.prog w = .ok (.bool (!x)) w := fun _ _ => rfl
  obtain ⟨q, er, hq64, hqm, hx⟩ := gotBd_form s
  have hof := fun wx => of_calls s wx hs
  have hrf := fun wx => of_ref s wx hs
  have hsm := fun va vb wx (ha : Sgs wx va q.list) (hb : Sgs wx vb q.list) => same_ref q q va vb wx ha hb (by omega) (by omega)
  rw [sameB_self'] at hsm
  have HO : Hid _ := hof
  have HR : Hid _ := hrf
  have HX : Hid _ := hx
  have HSM : Hid _ := hsm
  have HQM : Hid _ := hqm
  clear hof hrf hx hsm hqm
  have hne : (er != er) = false := by simp
  have heq : (er == er) = true := by simp
  unfold Bd.val at HX HSM
  go_enter Try.func4, Try.ntmps4
  go_wp2_with fail
  refine (HO.out _).mono ?_
  intro e w1 g1
  obtain ⟨va, rfl, ownA, b1⟩ := HX.out _ _ _ g1
  clear g1
  obtain ⟨pa, ca, rfl⟩ := own_len ownA
  have A1 := blk_new w1 w1.heap.size (bdC q (.slice pa q.list.length ca)) 24 rfl
  have B1 := b1.alloc b1.size (.cells (bdC q (.slice pa q.list.length ca)) 24)
  have ownA1 := ownA.alloc (.cells (bdC q (.slice pa q.list.length ca)) 24)
  go_wp2_with fail
  refine (HR.out _).mono ?_
  intro e w2 g2
  obtain ⟨vb, rfl, ownB, b2⟩ := HX.out _ _ _ g2
  clear g2
  obtain ⟨pb, cb, rfl⟩ := own_len ownB
  have A2 := (A1.below b2).alloc (.cells (bdC q (.slice pb q.list.length cb)) 24)
  have Bb2 := blk_new w2 w2.heap.size (bdC q (.slice pb q.list.length cb)) 24 rfl
  have B2' := B1.trans (b2.mono B1.size)
  have B2 := B2'.alloc B2'.size (.cells (bdC q (.slice pb q.list.length cb)) 24)
  have ownA2 := (own_below ownA1 b2).alloc (.cells (bdC q (.slice pb q.list.length cb)) 24)
  have ownB2 := ownB.alloc (.cells (bdC q (.slice pb q.list.length cb)) 24)
  obtain ⟨W, hW⟩ : ∃ W, w2.alloc (.cells (bdC q (.slice pb q.list.length cb)) 24) = W := ⟨_, rfl⟩
  rw [hW] at A2 Bb2 B2 ownA2 ownB2
  have hgl : ∀ g, (Value.slice pa q.list.length ca).ownBlock = some g → g < w1.heap.size := fun g hg => (ownA.lt g hg).2
  have hz2 := b2.size
  simp at hz2
  have hmA := HSM.out _ _ W (sgs_of_own ownA2 HQM.out) (sgs_of_own ownB2 HQM.out)
  have HMA : Hid _ := hmA
  have HOA : Hid _ := ownA2
  have HOB : Hid _ := ownB2
  have HGL : Hid _ := hgl
  clear A1 B1 ownA1 ownA ownB ownA2 ownB2 hmA b1 b2 B2' hgl
  have x0 := A2.cell (o := 0) rfl
  have x1 := A2.cell (o := 1) rfl
  have x2 := A2.cell (o := 2) rfl
  have x3 := A2.cell (o := 3) rfl
  have x4 := A2.cell (o := 4) rfl
  have x5 := A2.cell (o := 5) rfl
  have x6 := A2.cell (o := 6) rfl
  have x7 := A2.cell (o := 7) rfl
  have y0 := Bb2.cell (o := 0) rfl
  have y1 := Bb2.cell (o := 1) rfl
  have y2 := Bb2.cell (o := 2) rfl
  have y3 := Bb2.cell (o := 3) rfl
  have y4 := Bb2.cell (o := 4) rfl
  have y5 := Bb2.cell (o := 5) rfl
  have y6 := Bb2.cell (o := 6) rfl
  have y7 := Bb2.cell (o := 7) rfl
  go_wp2_with fail
  refine (Calls.mono HMA.out) ?_
  rintro e w3 ⟨rfl, b3⟩
  have A3 := A2.below b3
  have Bb3 := Bb2.below b3
  have B3 := B2.trans (b3.mono B2.size)
  have HOA3 : Hid (w3.ownsRow w.heap.size 35 3 (.slice pa q.list.length ca) q.list.length (sgCells q.list)) := own_below HOA.out b3
  have HOB3 : Hid (w3.ownsRow (w1.heap.size + 1) 35 3 (.slice pb q.list.length cb) q.list.length (sgCells q.list)) := by
    have h := own_below HOB.out b3
    have h' : w3.ownsRow (w1.heap.size + 1) 35 3 (.slice pb q.list.length cb) q.list.length (sgCells q.list) := by simpa using h
    exact h'
  have hz3 : w1.heap.size + 1 ≤ w3.heap.size := by
    have h1 := b3.size
    have h2 : W.heap.size = w2.heap.size + 1 := by rw [← hW]; simp
    omega
  clear x0 x1 x2 x3 x4 x5 x6 x7 y0 y1 y2 y3 y4 y5 y6 y7 A2 Bb2 B2 HOA HOB HMA hW b3
  go_wp2
  go_loopw [7] (fun i wr => ∃ (k : Nat) (xs : List Value), k ≤ q.list.length ∧ i = .int .i64 k ∧ Hid (wr.ownsRow w.heap.size 35 3 (.slice pa q.list.length ca) q.list.length xs) ∧ Hid (wr.ownsRow (w1.heap.size + 1) 35 3 (.slice pb q.list.length cb) q.list.length (sgCells q.list)) ∧ Blk wr w1.heap.size (bdC q (.slice pa q.list.length ca)) 24 ∧ Blk wr w2.heap.size (bdC q (.slice pb q.list.length cb)) 24 ∧ Below w.heap.size w wr) (fun i _ => q.list.length - (intOf i).toNat)
  case atStart => exact ⟨0, _, Nat.zero_le _, rfl, HOA3, HOB3, A3, Bb3, B3⟩
  case round =>
    obtain ⟨k, xs, hk, rfl, HOA4, HOB4, A4, Bb4, B4⟩ := hrel
    clear HOA3 HOB3 A3 Bb3 B3
    have a7 := A4.cell (o := 7) rfl
    by_cases hlt : k < q.list.length
    · have hd : decide ((k : Int) < q.list.length) = true := by simp only [decide_eq_true_eq]; omega
      obtain ⟨g, cap, cur, hpa, hgb, _⟩ : ∃ g cap cur, (Value.slice pa q.list.length ca) = .slice (some ⟨g, 0, none⟩) q.list.length cap ∧ w.heap.size ≤ g ∧ cur = g := by
        rcases HOA4.out.2 with ⟨h, h'⟩ | ⟨g, cap, cur, h, hb, _⟩
        · omega
        · exact ⟨g, cap, g, h, hb, rfl⟩
      have hob : (Value.slice pa q.list.length ca).ownBlock = some g := by rw [hpa]; rfl
      have hg1 := HGL.out g hob
      simp only [Value.slice.injEq, true_and] at hpa
      obtain ⟨hpa, _⟩ := hpa
      subst hpa
      obtain ⟨⟨u0, r0⟩, f0⟩ := own_there HOA4.out hob (k * 3) (by omega)
      obtain ⟨⟨u1, r1⟩, f1⟩ := own_there HOA4.out hob (k * 3 + 1) (by omega)
      obtain ⟨⟨u2, r2⟩, f2⟩ := own_there HOA4.out hob (k * 3 + 2) (by omega)
      go_wp2
      obtain ⟨xs1, o1⟩ := own_set (o := k * 3) (u := .int .i64 77) HOA4.out hob
      obtain ⟨xs2, o2⟩ := own_set (o := k * 3 + 1) (u := .string ⟨#[115, 112, 111, 105, 108, 116]⟩) o1 hob
      obtain ⟨xs3, o3⟩ := own_set (o := k * 3 + 2) (u := .string ⟨#[]⟩) o2 hob
      refine ⟨⟨k + 1, xs3, by omega, by go_num, o3, ?_, ?_, ?_, ?_⟩, ?_⟩
      · exact ownsRow_setCell_below (ownsRow_setCell_below (ownsRow_setCell_below HOB4.out (a := ⟨g, k * 3, none⟩) (Nat.lt_succ_of_lt hg1) _) (a := ⟨g, k * 3 + 1, none⟩) (Nat.lt_succ_of_lt hg1) _) (a := ⟨g, k * 3 + 2, none⟩) (Nat.lt_succ_of_lt hg1) _
      · have hg : w1.heap.size ≠ g := by omega
        exact ((A4.setOther (p := ⟨g, k * 3, none⟩) hg _).setOther (p := ⟨g, k * 3 + 1, none⟩) hg _).setOther (p := ⟨g, k * 3 + 2, none⟩) hg _
      · have hg : w2.heap.size ≠ g := by omega
        exact ((Bb4.setOther (p := ⟨g, k * 3, none⟩) hg _).setOther (p := ⟨g, k * 3 + 1, none⟩) hg _).setOther (p := ⟨g, k * 3 + 2, none⟩) hg _
      · exact ((B4.setCell (p := ⟨g, k * 3, none⟩) hgb _).setCell (p := ⟨g, k * 3 + 1, none⟩) hgb _).setCell (p := ⟨g, k * 3 + 2, none⟩) hgb _
      · simp [intOf]; omega
    · have hd : decide ((k : Int) < q.list.length) = false := by simp only [decide_eq_false_iff_not]; omega
      go_wp2_with fail
      refine (HO.out _).mono ?_
      intro e w5 g5
      obtain ⟨vc, rfl, ownC, b5⟩ := HX.out _ _ _ g5
      clear g5
      obtain ⟨pc, cc, rfl⟩ := own_len ownC
      have B5' := B4.trans (b5.mono B4.size)
      have Bb5 := (Bb4.below b5).alloc (.cells (bdC q (.slice pc q.list.length cc)) 24)
      have C5 := blk_new w5 w5.heap.size (bdC q (.slice pc q.list.length cc)) 24 rfl
      have B5 := B5'.alloc B5'.size (.cells (bdC q (.slice pc q.list.length cc)) 24)
      have hlt5 := (Bb4.below b5).lt
      have hn5 : ¬ w2.heap.size = w5.heap.size := by omega
      have hmC := HSM.out _ _ _ (sgs_of_own (ownC.alloc (.cells (bdC q (.slice pc q.list.length cc)) 24)) HQM.out) (sgs_of_own ((own_below HOB4.out b5).alloc (.cells (bdC q (.slice pc q.list.length cc)) 24)) HQM.out)
      have HMC : Hid _ := hmC
      clear hmC a7 A4 HOA4
      have y0 := (Bb4.below b5).cell (o := 0) rfl
      have y1 := (Bb4.below b5).cell (o := 1) rfl
      have y2 := (Bb4.below b5).cell (o := 2) rfl
      have y3 := (Bb4.below b5).cell (o := 3) rfl
      have y4 := (Bb4.below b5).cell (o := 4) rfl
      have y5 := (Bb4.below b5).cell (o := 5) rfl
      have y6 := (Bb4.below b5).cell (o := 6) rfl
      have y7 := (Bb4.below b5).cell (o := 7) rfl
      go_wp2_with fail
      refine (Calls.mono HMC.out) ?_
      rintro e w6 ⟨rfl, b6⟩
      have B6 := B5.trans (b6.mono B5.size)
      go_wp2_with fail
      refine (awake_calls _).mono ?_
      rintro e w7 ⟨rfl, b7⟩
      go_wp2
      go_ret
      exact ⟨rfl, B6.trans (b7.mono B6.size)⟩
end Go.Proofs.Ytcldfclbpeccjaa
