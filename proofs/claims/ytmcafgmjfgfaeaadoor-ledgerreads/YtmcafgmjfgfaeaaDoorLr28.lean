/- The ledger's records. -/
import Derived.Test.YtmcafgmjfgfaeaaDoorLr21
import Derived.Test.YtmcafgmjfgfaeaaDoorLr27
import Derived.Deep.RegionHeld
namespace Go.Proofs.YtmcafgmjfgfaeaaDoor
open Go.RowKit
set_option linter.unusedSimpArgs false
set_option linter.unusedVariables false
variable {p b g : Nat} {l : List Kt}

/-- An account's record. -/
def recOf (g i : Nat) (k : Kt) : Rc := ⟨keyB i, ⟨(valB k g).toArray⟩⟩
def recs (g : Nat) (l : List Kt) : List Rc := (List.range l.length).map fun i => recOf g i (kAt l i)
def recsN (g : Nat) (l : List Kt) (n : Nat) : List Rc := (List.range n).map fun i => recOf g i (kAt l i)
theorem recsN_succ (g : Nat) (l : List Kt) (n : Nat) : recsN g l (n + 1) = recsN g l n ++ [recOf g n (kAt l n)] := by
  unfold recsN; rw [List.range_succ, List.map_append]; rfl
theorem infoRcL : (Tryd.prog.info? 71).map (fun i => (i.zero, i.size, i.bytes)) = some (some (.agg #[.string ⟨#[]⟩, .string ⟨#[]⟩]), 2, 32) := by kernel_rfl
theorem step_ifL {P : Program} {ops : Array Oper} {o : Oper} {a : Act} {w : World} {K : Act → World → Prop} {Q : Exit → Act → World → Prop} {E : Prop} (hg : o.guard = none) (h : Oper.wp P o a w K Q) :
    if Region.wanted o (yielded ops a.tmps) = true then Oper.wp P o a w K Q else E := by
  have hw : Region.wanted o (yielded ops a.tmps) = true := by simp [Region.wanted, hg]
  rw [if_pos hw]; exact h

set_option maxRecDepth 100000 in
set_option maxHeartbeats 4000000 in
theorem records_calls (w : World) (h : Lg w p b g l) : Calls Tryd.prog 9 #[.pointer (some ⟨p, 0, none⟩)] w fun e w' => ∃ v, e = .returned v ∧ w'.ownsRow w.heap.size 71 2 v l.length (rcCells (recs g l)) ∧ Below w.heap.size w w' := by
  obtain ⟨i0, hi, hz0, hz1, hz2⟩ := info_parts infoRcL
  have hma := made_calls w h
  have hlen := h.inv.len
  have hg4 := h.inv.g4
  have hpl := h.blk.lt
  have HI : Hid _ := fun (i : Nat) (hi : i < l.length) => h.inv.fits hi
  have c0 : w.cell? ⟨p, 0, none⟩ = some (.slice (some ⟨b, 0, none⟩) l.length l.length) := h.blk.cell rfl
  go_enter Tryd.func9, Tryd.ntmps9
  go_wp2_with fail
  refine hma.mono ?_
  rintro e w1 ⟨rfl, rfl⟩
  go_wp2
  go_loopw [3, 14] (fun v i wr => ∃ k : Nat, k ≤ l.length ∧ i = .int .i64 k ∧ wr.ownsRow w1.heap.size 71 2 v k (rcCells (recsN g l k)) ∧ Below w1.heap.size w1 wr) (fun _ i _ => l.length - (intOf i).toNat)
  case atStart => exact ⟨0, Nat.zero_le _, rfl, World.ownsRow_nil _ _ _ _, Below.refl _ _⟩
  case round =>
    obtain ⟨k, hk, rfl, ho, hb⟩ := hrel
    by_cases hlt : k < l.length
    · have hd : decide ((k : Int) < l.length) = true := by simp only [decide_eq_true_eq]; omega
      have hLr := h.below hb
      have n0 := hLr.num0 hlt
      have n1 := hLr.num 1 hlt (by omega)
      have n2 := hLr.num 2 hlt (by omega)
      have n3 := hLr.num 3 hlt (by omega)
      have n4 := hLr.num 4 hlt (by omega)
      have n5 := hLr.num 5 hlt (by omega)
      have n6 := hLr.num 6 hlt (by omega)
      have n7 := hLr.num 7 hlt (by omega)
      have n8 := hLr.num 8 hlt (by omega)
      have n9 := hLr.num 9 hlt (by omega)
      have n10 := hLr.num 10 hlt (by omega)
      have n11 := hLr.rep hlt
      have hfit := HI.out k hlt
      have hrn := recsN_succ g l k
      generalize kAt l k = kk at *
      have HRN : Hid _ := hrn
      have HF : Hid _ := hfit
      have HO : Hid _ := ho
      have hbz := hb.size
      clear hrn hfit ho
      obtain ⟨W1, hW1, X1, B1, Z1⟩ : ∃ W1, (wr.alloc (.cells #[.int .i64 (kk.n 0), .int .i64 (kk.n 1), .int .i64 (kk.n 2), .int .i64 (kk.n 3), .int .i64 (kk.n 4), .int .i64 (kk.n 5), .int .i64 (kk.n 6), .int .i64 (kk.n 7), .int .i64 (kk.n 8), .int .i64 (kk.n 9), .int .i64 (kk.n 10), .string kk.reply] 67)) = W1 ∧ Blk W1 wr.heap.size kk.cells.toArray 67 ∧ Below wr.heap.size wr W1 ∧ W1.heap.size = wr.heap.size + 1 := ⟨_, rfl, blk_new _ _ _ _ rfl, by go_grown, by simp⟩
      have hL1 := hLr.below B1
      have e1 : W1.drew.cell? ⟨p, 1, none⟩ = some (.int .i64 g) := hL1.blk.cell rfl
      have hsz : (Tryd.prog.info? 67).map (·.size) = some kk.cells.toArray.size := by kernel_rfl
      have HS1 : Hid _ := X1
      have HZ1 : Hid _ := Z1
      clear X1 Z1 hLr hL1
      go_wp2_with fail
      refine wp_region_held_drew (S := (fun wx => Blk wx wr.heap.size kk.cells.toArray 67 ∧ wx.cell? ⟨p, 1, none⟩ = some (.int .i64 g))) (by kernel_rfl) ⟨Blk.drew HS1.out, e1⟩ (fun hS => ?_)
      refine wpAnyH_take (i := 0) (v := u3) rfl (by kernel_rfl) (by kernel_rfl) (by kernel_rfl) (fun _ _ _ h => h) (Or.inl ⟨by rfl, fun w hS => by obtain ⟨s0, s1⟩ := hS; go_simp⟩) hS ?_
      refine wpAnyH_take (i := 1) (v := .int .i64 k) rfl (by kernel_rfl) (by kernel_rfl) (by kernel_rfl) (fun _ _ _ h => h) (Or.inl ⟨by rfl, fun w hS => by obtain ⟨s0, s1⟩ := hS; go_simp⟩) hS ?_
      refine wpAnyH_take (i := 3) (v := .agg #[.int .i64 (kk.n 0), .int .i64 (kk.n 1), .int .i64 (kk.n 2), .int .i64 (kk.n 3), .int .i64 (kk.n 4), .int .i64 (kk.n 5), .int .i64 (kk.n 6), .int .i64 (kk.n 7), .int .i64 (kk.n 8), .int .i64 (kk.n 9), .int .i64 (kk.n 10), .string kk.reply]) rfl (by kernel_rfl) (by kernel_rfl) (by kernel_rfl) (fun _ _ _ h => h) (Or.inl ⟨by rfl, fun w hS => by obtain ⟨s0, s1⟩ := hS; have c0 := s0.cell (o := 0) (v := .int .i64 (kk.n 0)) rfl; have c1 := s0.cell (o := 1) (v := .int .i64 (kk.n 1)) rfl; have c2 := s0.cell (o := 2) (v := .int .i64 (kk.n 2)) rfl; have c3 := s0.cell (o := 3) (v := .int .i64 (kk.n 3)) rfl; have c4 := s0.cell (o := 4) (v := .int .i64 (kk.n 4)) rfl; have c5 := s0.cell (o := 5) (v := .int .i64 (kk.n 5)) rfl; have c6 := s0.cell (o := 6) (v := .int .i64 (kk.n 6)) rfl; have c7 := s0.cell (o := 7) (v := .int .i64 (kk.n 7)) rfl; have c8 := s0.cell (o := 8) (v := .int .i64 (kk.n 8)) rfl; have c9 := s0.cell (o := 9) (v := .int .i64 (kk.n 9)) rfl; have c10 := s0.cell (o := 10) (v := .int .i64 (kk.n 10)) rfl; have c11 := s0.cell (o := 11) (v := .string kk.reply) rfl; go_simp⟩) hS ?_
      refine wpAnyH_take (i := 4) (v := .pointer (some ⟨p, 0, none⟩)) rfl (by kernel_rfl) (by kernel_rfl) (by kernel_rfl) (fun _ _ _ h => h) (Or.inl ⟨by rfl, fun w hS => by obtain ⟨s0, s1⟩ := hS; go_simp⟩) hS ?_
      refine wpAnyH_take (i := 5) (v := .pointer (some ⟨p, 0, none⟩)) rfl (by kernel_rfl) (by kernel_rfl) (by kernel_rfl) (fun _ _ _ h => h) (Or.inl ⟨by rfl, fun w hS => by obtain ⟨s0, s1⟩ := hS; go_simp⟩) hS ?_
      refine wpAnyH_take (i := 6) (v := .pointer (some ⟨p, 1, none⟩)) rfl (by kernel_rfl) (by kernel_rfl) (by kernel_rfl) (fun _ _ _ h => h) (Or.inl ⟨by rfl, fun w hS => by obtain ⟨s0, s1⟩ := hS; go_simp⟩) hS ?_
      refine wpAnyH_take (i := 7) (v := .int .i64 g) rfl (by kernel_rfl) (by kernel_rfl) (by kernel_rfl) (fun _ _ _ h => h) (Or.inl ⟨by rfl, fun w hS => by obtain ⟨s0, s1⟩ := hS; go_simp⟩) hS ?_
      refine wpAnyH_ready (rs := [2]) (by kernel_rfl) (by simp) ?_
      refine AllReadyH.cons rfl (fun K hK => ?_) AllReadyH.nil
      go_simp
      refine (keyOf_calls k _ (by omega)).mono ?_
      rintro e w2 ⟨rfl, rfl⟩
      refine hK.out _ _ hS (fun hS => ?_)
      clear hK
      refine wpAnyH_ready (rs := [8]) (by kernel_rfl) (by simp) ?_
      refine AllReadyH.cons rfl (fun K hK => ?_) AllReadyH.nil
      go_simp
      refine (valueOf_calls kk g _ HF.out hg4).mono ?_
      rintro e w3 ⟨rfl, b3⟩
      refine hK.out _ _ ⟨hS.1.below b3, (b3.cell (p := ⟨p, 1, none⟩) (by have := B1.size; show p < _; simp; omega)).trans hS.2⟩ (fun hS => ?_)
      clear hK
      refine wpAnyH_take (i := 9) (v := .agg #[.string (keyB k), .string ⟨(valB kk g).toArray⟩]) rfl (by kernel_rfl) (by kernel_rfl) (by kernel_rfl) (fun _ _ _ h => h) (Or.inl ⟨by rfl, fun w hS => by obtain ⟨s0, s1⟩ := hS; go_simp⟩) hS ?_
      have z3 := b3.size
      have hz1' := HZ1.out
      have B3 : Below wr.heap.size wr w3 := (B1.drew).trans (b3.mono (by simp; omega))
      have O3 := own_belowL HO.out B3
      have hZ3 : wr.heap.size < w3.heap.size := by have : W1.drew.heap.size = W1.heap.size := rfl; omega
      refine wpAnyH_ready (rs := [10]) (by kernel_rfl) (by simp) ?_
      refine AllReadyH.cons rfl (fun K hK => ?_) AllReadyH.nil
      go_simp
      refine hK.out _ _ ⟨hS.1.alloc _, (((Below.refl w3.heap.size w3).alloc (Nat.le_refl _) _).cell (p := ⟨p, 1, none⟩) (show p < w3.heap.size by omega)).trans hS.2⟩ (fun hS => ?_)
      clear hK
      refine wpAnyH_ready (rs := [11]) (by kernel_rfl) (by simp) ?_
      refine AllReadyH.cons rfl (fun K hK => ?_) AllReadyH.nil
      refine step_ifL rfl ?_
      refine wp_append_own _ (.tmp 19) (.tmp 29) 36 rfl w1.heap.size 71 i0 (.agg #[.string ⟨#[]⟩, .string ⟨#[]⟩]) 2 32 Tryd.underlying36 hi hz0 hz1 hz2 rfl (by decide) u3 k (rcCells (recsN g l k)) rfl (World.ownsRow.alloc O3 _) ⟨w3.heap.size, 0, none⟩ 1 1 [.string (keyB k), .string ⟨(valB kk g).toArray⟩] rfl rfl ?_ ?_ ?_ ?_ ?_ ?_
      · intro j u hu
        have X := blk_new w3 w3.heap.size #[.string (keyB k), .string ⟨(valB kk g).toArray⟩] 71 rfl
        have : j = 0 ∨ j = 1 := by
          have := (List.getElem?_eq_some_iff.1 hu).1
          simp at this; omega
        rcases this with rfl | rfl
        · have e : u = .string (keyB k) := by simpa using hu.symm
          subst e; exact X.cell rfl
        · have e : u = .string ⟨(valB kk g).toArray⟩ := by simpa using hu.symm
          subst e; exact X.cell rfl
      · intro u hu
        simp at hu
        rcases hu with rfl | rfl <;> rfl
      · unfold maxLen; omega
      · omega
      · simp; omega
      intro v' w4 hown' hgrow _
      have hob : ∀ q, u3.ownBlock = some q → w1.heap.size ≤ q ∧ q < wr.heap.size := fun q hq => World.ownsRow.lt HO.out q hq
      have hz4 := hgrow.size
      refine hK.out _ _ ⟨(hgrow.block wr.heap.size (by simp; omega) (fun e => by have := hob _ e.symm; omega)).trans hS.1, ?_⟩ (fun hS => ?_)
      · rw [World.cell?_of_block (hgrow.block p (by simp; omega) (fun e => by have := hob _ e.symm; omega))]
        exact hS.2
      clear hK
      refine wpAnyH_take (i := 12) (v := v') rfl (by kernel_rfl) (by kernel_rfl) (by kernel_rfl) (fun _ _ _ h => h) (Or.inl ⟨by rfl, fun w hS => by go_simp⟩) hS ?_
      refine wpAnyH_done (by kernel_rfl) ?_ _
      go_wp2
      refine ⟨⟨k + 1, by omega, by norm_cast, ?_, ?_⟩, ?_⟩
      · rw [HRN.out, rcCells_snoc]; exact hown'
      · have BB : Below w1.heap.size w1 w3 := hb.trans (B3.mono hbz)
        exact (BB.alloc (by omega) _).grown hgrow (by simp; omega) (fun q hq => (hob q hq).1)
      · simp [intOf]; omega
    · have hd : decide ((k : Int) < l.length) = false := by simp only [decide_eq_false_iff_not]; omega
      have hkl : k = l.length := by omega
      subst hkl
      go_wp2
      go_ret
      exact ⟨_, rfl, ho, hb⟩
end Go.Proofs.YtmcafgmjfgfaeaaDoor
