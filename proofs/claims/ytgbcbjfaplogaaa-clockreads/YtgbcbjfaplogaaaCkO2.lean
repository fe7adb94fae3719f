/- Of: what is read, told apart. -/
import Derived.Test.YtgbcbjfaplogaaaCkO

import Derived.Deep.RegionHeldLaw
import Derived.Deep.RegionHeld3
namespace Go.Proofs.Ytgbcbjfaplogaaa
open Go.RowKit
set_option linter.unusedSimpArgs false
set_option linter.unusedVariables false
variable {p b : Nat} {a : Au}

set_option maxRecDepth 100000 in
set_option maxHeartbeats 2000000 in
theorem of_unfit (s : ByteArray) (ms : List Int) (w : World) (hs : s.size ≤ 140737488351232) (hn : nm s = some ms) (h6 : 6 ≤ ms.length) (hle : (ms.length : Int) = 6 + 2 * gAt ms 5) (hf : ¬ Au.fits (gAt ms 0) (gAt ms 1) (gAt ms 2) (gAt ms 5)) :
    Calls Try.prog 6 #[.string s] w fun e w' => e = .returned (.tuple #[.pointer none, .int .i64 92]) ∧ Below w.heap.size w w' := by
  have HN : Hid _ := numbersOf_calls s w hs
  have HM : Hid _ := hn
  have hcan := nmF_canon 38 _ ms hn
  have h38 := hcan.2.1
  have HBN : Hid (∀ i, 0 ≤ gAt ms i ∧ gAt ms i ≤ 9007199254740992) := fun i => by
    by_cases hi : i < ms.length
    · rw [gAt_eq hi]; exact hcan.2.2 _ (List.getElem_mem _)
    · rw [gAt_none (by omega)]; omega
  have hb5 := HBN.out 5
  clear hcan hn
  go_enter Try.func6, Try.ntmps6
  go_wp2_with fail
  refine Calls.mono HN.out ?_
  rintro e w1 ⟨b1, q⟩
  clear HN
  rcases q with ⟨hn, rfl⟩ | ⟨ms', v, hn, rfl, R1⟩
  · exact absurd (hn.symm.trans HM.out) (by simp)
  obtain rfl : ms' = ms := Option.some.inj (hn.symm.trans HM.out)
  clear hn HM
  obtain ⟨g, cap, cur, rfl, hg, X1, hc⟩ := R1.block (by omega)
  have d6 : decide ((ms'.length : Int) < 6) = false := decide_eq_false (by omega)
  have c0 : w1.cell? ⟨g, 0, none⟩ = some (.int .i64 (gAt ms' 0)) := X1.cell (hc 0 (by omega))
  have c1 : w1.cell? ⟨g, 1, none⟩ = some (.int .i64 (gAt ms' 1)) := X1.cell (hc 1 (by omega))
  have c2 : w1.cell? ⟨g, 2, none⟩ = some (.int .i64 (gAt ms' 2)) := X1.cell (hc 2 (by omega))
  have c5 : w1.cell? ⟨g, 5, none⟩ = some (.int .i64 (gAt ms' 5)) := X1.cell (hc 5 (by omega))
  have l0 : (0 : Int) < ms'.length := by omega
  have l1 : (1 : Int) < ms'.length := by omega
  have l2 : (2 : Int) < ms'.length := by omega
  have l3 : (3 : Int) < ms'.length := by omega
  have l4 : (4 : Int) < ms'.length := by omega
  have l5 : (5 : Int) < ms'.length := by omega
  have HC : Hid _ := hc
  clear hc R1
  rename List Int => ms
  have HLE : Hid ((ms.length : Int) = 6 + 2 * gAt ms 5) := hle
  have hde : ((ms.length : Int) == 6 + 2 * gAt ms 5) = true := by simpa using hle
  clear hle
  generalize ms.length = n at *
  have HNB : Hid _ := fun wx => new_bad (gAt ms 0) (gAt ms 1) (gAt ms 2) (gAt ms 5) wx hf
  have B1 := b1.drew
  have X1d := X1.drew
  clear hf
  go_wp2_with fail
  clear hde
  refine wp_region_held_drew (S := (fun wx => wx.cell? ⟨g, 0, none⟩ = some (.int .i64 (gAt ms 0)) ∧ wx.cell? ⟨g, 1, none⟩ = some (.int .i64 (gAt ms 1)) ∧ wx.cell? ⟨g, 2, none⟩ = some (.int .i64 (gAt ms 2)) ∧ wx.cell? ⟨g, 5, none⟩ = some (.int .i64 (gAt ms 5)))) (by kernel_rfl) ⟨c0, c1, c2, c5⟩ (fun hS => ?_)
  refine wpAnyH_take (i := 0) (v := (.slice (some ⟨g, 0, none⟩) n cap)) rfl (by kernel_rfl) (by kernel_rfl) (by kernel_rfl) (fun _ _ _ h => h) (Or.inl ⟨by rfl, fun w hS => by obtain ⟨s0, s1, s2, s3⟩ := hS; go_simp⟩) hS ?_
  refine wpAnyH_take (i := 1) (v := (.pointer (some ⟨g, 0, none⟩))) rfl (by kernel_rfl) (by kernel_rfl) (by kernel_rfl) (fun _ _ _ h => h) (Or.inl ⟨by rfl, fun w hS => by obtain ⟨s0, s1, s2, s3⟩ := hS; go_simp; intro h; omega⟩) hS ?_
  refine wpAnyH_take (i := 2) (v := (.int .i64 (gAt ms 0))) rfl (by kernel_rfl) (by kernel_rfl) (by kernel_rfl) (fun _ _ _ h => h) (Or.inl ⟨by rfl, fun w hS => by obtain ⟨s0, s1, s2, s3⟩ := hS; go_simp⟩) hS ?_
  refine wpAnyH_take (i := 3) (v := (.slice (some ⟨g, 0, none⟩) n cap)) rfl (by kernel_rfl) (by kernel_rfl) (by kernel_rfl) (fun _ _ _ h => h) (Or.inl ⟨by rfl, fun w hS => by obtain ⟨s0, s1, s2, s3⟩ := hS; go_simp⟩) hS ?_
  refine wpAnyH_take (i := 4) (v := (.pointer (some ⟨g, 1, none⟩))) rfl (by kernel_rfl) (by kernel_rfl) (by kernel_rfl) (fun _ _ _ h => h) (Or.inl ⟨by rfl, fun w hS => by obtain ⟨s0, s1, s2, s3⟩ := hS; go_simp⟩) hS ?_
  refine wpAnyH_take (i := 5) (v := (.int .i64 (gAt ms 1))) rfl (by kernel_rfl) (by kernel_rfl) (by kernel_rfl) (fun _ _ _ h => h) (Or.inl ⟨by rfl, fun w hS => by obtain ⟨s0, s1, s2, s3⟩ := hS; go_simp⟩) hS ?_
  refine wpAnyH_take (i := 6) (v := (.slice (some ⟨g, 0, none⟩) n cap)) rfl (by kernel_rfl) (by kernel_rfl) (by kernel_rfl) (fun _ _ _ h => h) (Or.inl ⟨by rfl, fun w hS => by obtain ⟨s0, s1, s2, s3⟩ := hS; go_simp⟩) hS ?_
  refine wpAnyH_take (i := 7) (v := (.pointer (some ⟨g, 2, none⟩))) rfl (by kernel_rfl) (by kernel_rfl) (by kernel_rfl) (fun _ _ _ h => h) (Or.inl ⟨by rfl, fun w hS => by obtain ⟨s0, s1, s2, s3⟩ := hS; go_simp⟩) hS ?_
  refine wpAnyH_take (i := 8) (v := (.int .i64 (gAt ms 2))) rfl (by kernel_rfl) (by kernel_rfl) (by kernel_rfl) (fun _ _ _ h => h) (Or.inl ⟨by rfl, fun w hS => by obtain ⟨s0, s1, s2, s3⟩ := hS; go_simp⟩) hS ?_
  refine wpAnyH_take (i := 9) (v := (.slice (some ⟨g, 0, none⟩) n cap)) rfl (by kernel_rfl) (by kernel_rfl) (by kernel_rfl) (fun _ _ _ h => h) (Or.inl ⟨by rfl, fun w hS => by obtain ⟨s0, s1, s2, s3⟩ := hS; go_simp⟩) hS ?_
  refine wpAnyH_take (i := 10) (v := (.pointer (some ⟨g, 5, none⟩))) rfl (by kernel_rfl) (by kernel_rfl) (by kernel_rfl) (fun _ _ _ h => h) (Or.inl ⟨by rfl, fun w hS => by obtain ⟨s0, s1, s2, s3⟩ := hS; go_simp⟩) hS ?_
  refine wpAnyH_take (i := 11) (v := (.int .i64 (gAt ms 5))) rfl (by kernel_rfl) (by kernel_rfl) (by kernel_rfl) (fun _ _ _ h => h) (Or.inl ⟨by rfl, fun w hS => by obtain ⟨s0, s1, s2, s3⟩ := hS; go_simp⟩) hS ?_
  refine wpAnyH_ready (rs := [12]) (by kernel_rfl) (by simp) ?_
  refine AllReadyH.cons rfl (fun K hK => ?_) AllReadyH.nil
  go_simp
  refine Calls.mono (HNB.out _) ?_
  rintro e w2 ⟨rfl, rfl⟩
  refine hK.out _ _ hS (fun hS => ?_)
  clear hK
  refine wpAnyH_take (i := 13) (v := (.tuple #[.pointer none, .int .i64 1])) rfl (by kernel_rfl) (by kernel_rfl) (by kernel_rfl) (fun _ _ _ h => h) (Or.inl ⟨by rfl, fun w hS => by obtain ⟨s0, s1, s2, s3⟩ := hS; go_simp⟩) hS ?_
  refine wpAnyH_take (i := 14) (v := (.pointer none)) rfl (by kernel_rfl) (by kernel_rfl) (by kernel_rfl) (fun _ _ _ h => h) (Or.inl ⟨by rfl, fun w hS => by obtain ⟨s0, s1, s2, s3⟩ := hS; go_simp⟩) hS ?_
  refine wpAnyH_take (i := 15) (v := (.int .i64 1)) rfl (by kernel_rfl) (by kernel_rfl) (by kernel_rfl) (fun _ _ _ h => h) (Or.inl ⟨by rfl, fun w hS => by obtain ⟨s0, s1, s2, s3⟩ := hS; go_simp⟩) hS ?_
  refine wpAnyH_take (i := 16) (v := (.pointer none)) rfl (by kernel_rfl) (by kernel_rfl) (by kernel_rfl) (fun _ _ _ h => h) (Or.inl ⟨by rfl, fun w hS => by obtain ⟨s0, s1, s2, s3⟩ := hS; go_simp⟩) hS ?_
  refine wpAnyH_take (i := 17) (v := (.int .i64 1)) rfl (by kernel_rfl) (by kernel_rfl) (by kernel_rfl) (fun _ _ _ h => h) (Or.inl ⟨by rfl, fun w hS => by obtain ⟨s0, s1, s2, s3⟩ := hS; go_simp⟩) hS ?_
  refine wpAnyH_done (by kernel_rfl) ?_ _
  go_wp2
  go_ret2
  exact ⟨rfl, B1⟩
end Go.Proofs.Ytgbcbjfaplogaaa
