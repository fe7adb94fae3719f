/- Roots of trees and of records: the program's answers. -/
import Derived.Test.YtpcafjbebhcilaaGreatTm23
import Derived.Deep.RegionHeld
namespace Go.Proofs.YtpcafjbebhcilaaGreat
open Go.RowKit
set_option linter.unusedSimpArgs false
set_option linter.unusedVariables false
variable {p b x y : Nat} {T : List ByteArray} {S : List (Int × ByteArray)}

theorem lf_own {w : World} {base : Nat} {v : Value} {ls : List ByteArray} (h : w.ownsRow base 9 1 v ls.length (txC ls)) : Lf w v ls := by
  rcases h.2 with ⟨rfl, h0⟩ | ⟨g, cap, cur, rfl, hb, hg, hc, hm, hs, ht⟩
  · exact ⟨none, 0, by rw [h0], by omega, by omega, fun i hi => by omega⟩
  · refine Lf.mk hc (by unfold maxLen at hm; omega) (fun i hi => ?_)
    obtain ⟨g', cap', e, _, _, hx⟩ := own_at h (by omega)
    simp only [Value.slice.injEq, Option.some.injEq, Addr.mk.injEq] at e
    obtain ⟨⟨rfl, _⟩, _⟩ := e
    rw [Nat.zero_add]
    refine hx i _ ?_
    simp [txC, hi]

set_option maxHeartbeats 4000000 in
set_option maxRecDepth 100000 in
theorem treeRoot_calls (k : Nat) (lv dv : Value) (ls : List ByteArray) (w : World) (hX : Blk w k #[.pointer (some ⟨p, 0, none⟩), lv, dv] 64) (hL : Lf w dv ls) (h : Book w p b x y T S) (hl : ls.length ≤ 4096) (hT : T.length + ls.length + 1 < 1000000) (hz : ∀ s ∈ ls, s.size ≤ 32) :
    Calls Tryz.prog 29 #[.pointer (some ⟨k, 0, none⟩)] w fun e w' => ∃ t T', e = .returned (.string (dig T' (rootT ls.length t))) ∧ Top T' ls t ∧ rootT ls.length t ∈ T' ∧ Grew x y p b T S w (ls.length + 1) T' w' := by
  obtain ⟨a, cap, rfl, hcap⟩ := id hL
  have c0 : w.cell? ⟨k, 0, none⟩ = some (.pointer (some ⟨p, 0, none⟩)) := hX.cell rfl
  have c2 : w.cell? ⟨k, 2, none⟩ = some (.slice a ls.length cap) := hX.cell rfl
  go_enter Tryz.func29, Tryz.ntmps29
  go_wp2_with fail
  have hd : Below w.heap.size w w.drew := (Below.refl _ _).drew
  refine wp_region_held_drew (S := (fun wx => wx.cell? ⟨k, 0, none⟩ = some (.pointer (some ⟨p, 0, none⟩)) ∧ wx.cell? ⟨k, 2, none⟩ = some (.slice a ls.length cap))) (by kernel_rfl) ⟨c0, c2⟩ (fun hS => ?_)
  refine wpAnyH_take (i := 0) (v := (.pointer (some ⟨k, 0, none⟩))) rfl (by kernel_rfl) (by kernel_rfl) (by kernel_rfl) (fun _ _ _ h => h) (Or.inl ⟨by rfl, fun w hS => by obtain ⟨s0, s1⟩ := hS; go_simp⟩) hS ?_
  refine wpAnyH_take (i := 1) (v := (.pointer (some ⟨k, 0, none⟩))) rfl (by kernel_rfl) (by kernel_rfl) (by kernel_rfl) (fun _ _ _ h => h) (Or.inl ⟨by rfl, fun w hS => by obtain ⟨s0, s1⟩ := hS; go_simp⟩) hS ?_
  refine wpAnyH_take (i := 2) (v := (.pointer (some ⟨k, 0, none⟩))) rfl (by kernel_rfl) (by kernel_rfl) (by kernel_rfl) (fun _ _ _ h => h) (Or.inl ⟨by rfl, fun w hS => by obtain ⟨s0, s1⟩ := hS; go_simp⟩) hS ?_
  refine wpAnyH_take (i := 3) (v := (.pointer (some ⟨p, 0, none⟩))) rfl (by kernel_rfl) (by kernel_rfl) (by kernel_rfl) (fun _ _ _ h => h) (Or.inl ⟨by rfl, fun w hS => by obtain ⟨s0, s1⟩ := hS; go_simp⟩) hS ?_
  refine wpAnyH_take (i := 4) (v := (.pointer (some ⟨k, 0, none⟩))) rfl (by kernel_rfl) (by kernel_rfl) (by kernel_rfl) (fun _ _ _ h => h) (Or.inl ⟨by rfl, fun w hS => by obtain ⟨s0, s1⟩ := hS; go_simp⟩) hS ?_
  refine wpAnyH_take (i := 5) (v := (.pointer (some ⟨k, 0, none⟩))) rfl (by kernel_rfl) (by kernel_rfl) (by kernel_rfl) (fun _ _ _ h => h) (Or.inl ⟨by rfl, fun w hS => by obtain ⟨s0, s1⟩ := hS; go_simp⟩) hS ?_
  refine wpAnyH_take (i := 6) (v := (.pointer (some ⟨k, 2, none⟩))) rfl (by kernel_rfl) (by kernel_rfl) (by kernel_rfl) (fun _ _ _ h => h) (Or.inl ⟨by rfl, fun w hS => by obtain ⟨s0, s1⟩ := hS; go_simp⟩) hS ?_
  refine wpAnyH_take (i := 7) (v := (.slice a ls.length cap)) rfl (by kernel_rfl) (by kernel_rfl) (by kernel_rfl) (fun _ _ _ h => h) (Or.inl ⟨by rfl, fun w hS => by obtain ⟨s0, s1⟩ := hS; go_simp⟩) hS ?_
  refine wpAnyH_take (i := 8) (v := (.int .i64 ls.length)) rfl (by kernel_rfl) (by kernel_rfl) (by kernel_rfl) (fun _ _ _ h => h) (Or.inl ⟨by rfl, fun w hS => by obtain ⟨s0, s1⟩ := hS; go_simp⟩) hS ?_
  refine wpAnyH_take (i := 9) (v := (.pointer (some ⟨k, 0, none⟩))) rfl (by kernel_rfl) (by kernel_rfl) (by kernel_rfl) (fun _ _ _ h => h) (Or.inl ⟨by rfl, fun w hS => by obtain ⟨s0, s1⟩ := hS; go_simp⟩) hS ?_
  refine wpAnyH_take (i := 10) (v := (.pointer (some ⟨k, 0, none⟩))) rfl (by kernel_rfl) (by kernel_rfl) (by kernel_rfl) (fun _ _ _ h => h) (Or.inl ⟨by rfl, fun w hS => by obtain ⟨s0, s1⟩ := hS; go_simp⟩) hS ?_
  refine wpAnyH_take (i := 11) (v := (.pointer (some ⟨k, 0, none⟩))) rfl (by kernel_rfl) (by kernel_rfl) (by kernel_rfl) (fun _ _ _ h => h) (Or.inl ⟨by rfl, fun w hS => by obtain ⟨s0, s1⟩ := hS; go_simp⟩) hS ?_
  refine wpAnyH_take (i := 12) (v := (.pointer (some ⟨p, 0, none⟩))) rfl (by kernel_rfl) (by kernel_rfl) (by kernel_rfl) (fun _ _ _ h => h) (Or.inl ⟨by rfl, fun w hS => by obtain ⟨s0, s1⟩ := hS; go_simp⟩) hS ?_
  refine wpAnyH_take (i := 13) (v := (.pointer (some ⟨k, 0, none⟩))) rfl (by kernel_rfl) (by kernel_rfl) (by kernel_rfl) (fun _ _ _ h => h) (Or.inl ⟨by rfl, fun w hS => by obtain ⟨s0, s1⟩ := hS; go_simp⟩) hS ?_
  refine wpAnyH_take (i := 14) (v := (.pointer (some ⟨k, 0, none⟩))) rfl (by kernel_rfl) (by kernel_rfl) (by kernel_rfl) (fun _ _ _ h => h) (Or.inl ⟨by rfl, fun w hS => by obtain ⟨s0, s1⟩ := hS; go_simp⟩) hS ?_
  refine wpAnyH_take (i := 15) (v := (.pointer (some ⟨k, 2, none⟩))) rfl (by kernel_rfl) (by kernel_rfl) (by kernel_rfl) (fun _ _ _ h => h) (Or.inl ⟨by rfl, fun w hS => by obtain ⟨s0, s1⟩ := hS; go_simp⟩) hS ?_
  refine wpAnyH_take (i := 16) (v := (.slice a ls.length cap)) rfl (by kernel_rfl) (by kernel_rfl) (by kernel_rfl) (fun _ _ _ h => h) (Or.inl ⟨by rfl, fun w hS => by obtain ⟨s0, s1⟩ := hS; go_simp⟩) hS ?_
  refine wpAnyH_ready (rs := [17]) (by kernel_rfl) (by simp) ?_
  refine AllReadyH.cons rfl (fun K hK => ?_) AllReadyH.nil
  go_simp
  refine (topOf_calls ls.length ls _ T _ rfl hl (hL.below hd) (h.below hd) (by omega) hz).mono ?_
  rintro e w2 ⟨t, T1, rfl, t1, G1⟩
  have l1 := G1.len
  have hB0 := h.below hd
  refine hK.out _ _ ⟨keepCell2 hB0 G1.off hS.1, keepCell2 hB0 G1.off hS.2⟩ (fun hS => ?_)
  clear hK
  refine wpAnyH_ready (rs := [18]) (by kernel_rfl) (by simp) ?_
  refine AllReadyH.cons rfl (fun K hK => ?_) AllReadyH.nil
  go_simp
  refine (rootOf_calls ls.length t _ G1.book (by omega) (by omega) (Nat.le_trans (t1.small hz) (by decide))).mono ?_
  rintro e w3 A
  obtain rfl := A.ret
  refine hK.out _ _ ⟨keepCell2 G1.book A.off hS.1, keepCell2 G1.book A.off hS.2⟩ (fun hS => ?_)
  clear hK
  refine wpAnyH_ready (rs := [19]) (by kernel_rfl) (by simp) ?_
  refine AllReadyH.cons rfl (fun K hK => ?_) AllReadyH.nil
  go_simp
  refine hK.out _ _ hS (fun hS => ?_)
  clear hK
  refine wpAnyH_done (by kernel_rfl) ?_ _
  go_wp2
  go_ret
  have G0 : Grew x y p b T S w 0 T w.drew := (Grew.refl h).below hd
  exact ⟨t, note T1 (rootT ls.length t), rfl, t1.ext (Ext.note _ _), mem_noted _ _, ((G0.trans G1).trans A.grew).le (by omega)⟩

/-- What Root answers. -/
structure RootP (x y p b : Nat) (T : List ByteArray) (S : List (Int × ByteArray)) (w : World) (l : List Rc) (e : Ending) (w' : World) : Prop where
  bad : riseR l ≠ 0 → e = .returned (.tuple #[.string ⟨#[]⟩, .int .i64 (riseR l)]) ∧ Below w.heap.size w w'
  good : riseR l = 0 → ∃ r T', e = .returned (.tuple #[.string r, .int .i64 0]) ∧ RootOf T' l r ∧ Grew x y p b T S w (2 * l.length + 1) T' w'

set_option maxHeartbeats 4000000 in
set_option maxRecDepth 100000 in
theorem root_calls (v : Value) (l : List Rc) (w : World) (hr : Rcs w v l) (hl : l.length ≤ 9223372036854775807) (h : Book w p b x y T S) (hS : S.length < 1000000) (hT : T.length < 500000) :
    Calls Tryz.prog 36 #[.pointer (some ⟨p, 0, none⟩), v] w (RootP x y p b T S w l) := by
  have HR : Hid _ := refuse_calls v l w hr hl h hS
  by_cases h0 : riseR l = 0
  · obtain ⟨hl4, hzz⟩ := riseR_ok h0
    rw [h0] at HR
    go_enter Tryz.func36, Tryz.ntmps36
    go_wp2_with fail
    refine Calls.mono HR.out ?_
    rintro e w1 ⟨rfl, b1⟩
    go_wp2_with fail
    refine (over_calls v l w1 (hr.below b1) (h.below b1) hl4 (by omega) hzz).mono ?_
    rintro e w2 ⟨k, dv, ls, T1, rfl, hk, hX, ho, hlv, G1⟩
    have ll := hlv.len
    have l1 := G1.len
    go_wp2_with fail
    refine (treeRoot_calls k _ dv ls w2 hX (lf_own ho) G1.book (by omega) (by omega) hlv.small).mono ?_
    rintro e w3 ⟨t, T2, rfl, t2, m2, G2⟩
    go_wp2
    go_ret2
    refine ⟨fun hh => absurd h0 hh, fun _ => ⟨_, T2, rfl, ⟨ls, t, hlv.ext G2.ext, t2, ?_, ?_⟩, ?_⟩⟩
    · rw [← ll]; exact m2
    · rw [← ll]
    · exact ((((Grew.refl h).below b1).trans G1).trans G2).le (by omega)
  · obtain ⟨E, hE⟩ : ∃ E, riseR l = E := ⟨_, rfl⟩
    have hE0 : E ≠ 0 := by rw [← hE]; exact h0
    have d0 : decide (E = 0) = false := decide_eq_false hE0
    have d0' : (E == 0) = false := d0
    rw [hE] at HR
    go_enter Tryz.func36, Tryz.ntmps36
    go_wp2_with fail
    refine Calls.mono HR.out ?_
    rintro e w1 ⟨rfl, b1⟩
    go_wp2
    go_ret2
    exact ⟨fun _ => ⟨by rw [hE]; rfl, b1⟩, fun hh => absurd hh h0⟩
end Go.Proofs.YtpcafjbebhcilaaGreat
