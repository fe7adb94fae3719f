/- WireBytes for every body: what it answers. -/
import Derived.Test.YtcldfclbpeccjaaBdR
import Derived.Test.YtcldfclbpeccjaaCop
import Derived.Test.YtcldfclbpeccjaaSame
namespace Go.Proofs.Ytcldfclbpeccjaa
open Go.RowKit
set_option linter.unusedVariables false
set_option linter.unusedSimpArgs false

theorem bytesR_form (b : Bd) : ∃ (z : ByteArray) (e : Int), bytesR b = #[.string z, .int .i64 e] := by
  unfold bytesR
  split
  · split
    · exact ⟨_, _, rfl⟩
    · exact ⟨_, _, rfl⟩
  · exact ⟨_, _, rfl⟩
theorem sameB_self (b : Bd) : sameB b b = true := (sameB_iff b b).2 rfl

abbrev bdCells (b : Bd) (lv : Value) : Array Value := #[.int .i64 b.kind, .int .i64 b.view, .int .i64 b.seq, .int .i64 b.client, .int .i64 b.stamp, .string b.digest, .string b.text, lv]

set_option maxRecDepth 100000 in
set_option maxHeartbeats 4000000 in
theorem bytesLaw_calls (b : Bd) (lv : Value) (w : World) (h1 : b.digest.size ≤ maxLen) (h2 : b.text.size ≤ maxLen) (h3 : b.list.length * 40 ≤ 140737488351232) (hl : Sgs w lv b.list) :
    Calls Try.prog 3 #[b.val lv] w fun e w' => e = .returned (.bool true) ∧ Below w.heap.size w w' := by
  have h3' : b.list.length < 9223372036854775807 := by omega
  have hlm : ∀ m ∈ b.list, m.body.size ≤ maxLen ∧ m.sig.size ≤ maxLen := by
    intro m hm
    rcases hl with ⟨_, hn⟩ | ⟨b', off, cap, _, hc⟩
    · rw [hn] at hm; cases hm
    · obtain ⟨i, hi, rfl⟩ := List.getElem_of_mem hm
      exact (hc i hi).2.2.2
  obtain ⟨z, eb, hb⟩ := bytesR_form b
  have hcop := fun wx (hbw : Below w.heap.size w wx) => copied_calls lv b.list wx (hl.below hbw) h3
  have hbr := fun wx (hbw : Below w.heap.size w wx) => bytes_ref b lv wx h1 h2 h3' (hl.below hbw)
  have hba := fun v wx (hv : Sgs wx v b.list) => bytes_calls b v wx h1 h2 h3' hv
  have hsm := fun v wx (hv : Sgs wx v b.list) (hbw : Below w.heap.size w wx) => same_ref b b v lv wx hv (hl.below hbw) h3' h3'
  rw [hb] at hbr hba
  rw [sameB_self] at hsm
  obtain ⟨p, c, rfl⟩ := hl.len
  have HC : Hid _ := hcop
  have HBR : Hid _ := hbr
  have HBA : Hid _ := hba
  have HSM : Hid _ := hsm
  have HLM : Hid _ := hlm
  clear hcop hbr hba hsm hlm hb hl
  have hzz : (z.toList == z.toList) = true := by simp
  have heb : (eb == eb) = true := by simp
  have P0 := (blk_new w w.heap.size (bdCells b (.slice p b.list.length c)) 24 rfl).alloc (.cells (bdCells b (.slice p b.list.length c)) 24)
  have M0 := blk_new (w.alloc (.cells (bdCells b (.slice p b.list.length c)) 24)) (w.heap.size + 1) (bdCells b (.slice p b.list.length c)) 24 (by simp)
  have B0 : Below w.heap.size w ((w.alloc (.cells (bdCells b (.slice p b.list.length c)) 24)).alloc (.cells (bdCells b (.slice p b.list.length c)) 24)) := by go_grown
  unfold Bd.val at HBR HBA HSM ⊢
  go_enter Try.func3, Try.ntmps3
  go_wp2_with fail
  refine (HC.out _ B0).mono ?_
  rintro e w1 ⟨v1, rfl, own1, b1⟩
  obtain ⟨p1, c1, rfl⟩ := own_len own1
  have B1 := B0.trans (b1.mono B0.size)
  have P1 := P0.below b1
  have M1 := M0.below b1
  have S1 := sgs_of_own own1 HLM.out
  clear P0 M0 B0
  have m7 := M1.cell (o := 7) rfl
  have f7 := M1.frozen (o := 7)
  obtain ⟨W, hW, MW, PW, BW', SW⟩ : ∃ W, (w1.setCell ⟨w.heap.size + 1, 7, none⟩ (.slice p1 b.list.length c1)) = W ∧ Blk W (w.heap.size + 1) (bdCells b (.slice p1 b.list.length c1)) 24 ∧ Blk W w.heap.size (bdCells b (.slice p b.list.length c)) 24 ∧ Below w.heap.size w W ∧ Sgs W (.slice p1 b.list.length c1) b.list := by
    refine ⟨_, rfl, ?_, ?_, ?_, ?_⟩
    · have hx := M1.set 7 (.slice p1 b.list.length c1)
      simpa [bdCells] using hx
    · exact P1.setOther (p := ⟨w.heap.size + 1, 7, none⟩) (by simp) _
    · exact B1.setCell (p := ⟨w.heap.size + 1, 7, none⟩) (by simp) _
    · exact sgs_of_own (ownsRow_setCell_below own1 (a := ⟨w.heap.size + 1, 7, none⟩) (by simp) _) HLM.out
  have HSW : Hid _ := SW
  clear SW S1 own1
  have m0 := MW.cell (o := 0) rfl
  have m1 := MW.cell (o := 1) rfl
  have m2 := MW.cell (o := 2) rfl
  have m3 := MW.cell (o := 3) rfl
  have m4 := MW.cell (o := 4) rfl
  have m5 := MW.cell (o := 5) rfl
  have m6 := MW.cell (o := 6) rfl
  have m7' := MW.cell (o := 7) rfl
  go_wp2_with fail
  refine (HBA.out _ _ HSW.out).mono ?_
  rintro e w2 ⟨rfl, b2⟩
  have B2 := BW'.trans (b2.mono BW'.size)
  have M2 := MW.below b2
  have P2 := PW.below b2
  have HS2 : Hid (Sgs w2 (.slice p1 b.list.length c1) b.list) := Sgs.below HSW.out b2
  clear m0 m1 m2 m3 m4 m5 m6 m7' m7 f7 MW PW hW
  have q0 := P2.cell (o := 0) rfl
  have q1 := P2.cell (o := 1) rfl
  have q2 := P2.cell (o := 2) rfl
  have q3 := P2.cell (o := 3) rfl
  have q4 := P2.cell (o := 4) rfl
  have q5 := P2.cell (o := 5) rfl
  have q6 := P2.cell (o := 6) rfl
  have q7 := P2.cell (o := 7) rfl
  go_wp2_with fail
  refine (HBR.out _ B2).mono ?_
  rintro e w3 ⟨rfl, b3⟩
  have B3 := B2.trans (b3.mono B2.size)
  have M3 := M2.below b3
  have P3 := P2.below b3
  have HS3 : Hid (Sgs w3 (.slice p1 b.list.length c1) b.list) := Sgs.below HS2.out b3
  clear q0 q1 q2 q3 q4 q5 q6 q7 M2 P2 HS2
  have m0 := M3.cell (o := 0) rfl
  have m1 := M3.cell (o := 1) rfl
  have m2 := M3.cell (o := 2) rfl
  have m3 := M3.cell (o := 3) rfl
  have m4 := M3.cell (o := 4) rfl
  have m5 := M3.cell (o := 5) rfl
  have m6 := M3.cell (o := 6) rfl
  have m7 := M3.cell (o := 7) rfl
  have q0 := P3.cell (o := 0) rfl
  have q1 := P3.cell (o := 1) rfl
  have q2 := P3.cell (o := 2) rfl
  have q3 := P3.cell (o := 3) rfl
  have q4 := P3.cell (o := 4) rfl
  have q5 := P3.cell (o := 5) rfl
  have q6 := P3.cell (o := 6) rfl
  have q7 := P3.cell (o := 7) rfl
  go_wp2_with fail
  refine (HSM.out _ _ HS3.out B3).mono ?_
  rintro e w4 ⟨rfl, b4⟩
  have B4 := B3.trans (b4.mono B3.size)
  go_wp2_with fail
  refine (awake_calls _).mono ?_
  rintro e w5 ⟨rfl, b5⟩
  go_wp2
  go_ret
  exact ⟨rfl, B4.trans (b5.mono B4.size)⟩
end Go.Proofs.Ytcldfclbpeccjaa
