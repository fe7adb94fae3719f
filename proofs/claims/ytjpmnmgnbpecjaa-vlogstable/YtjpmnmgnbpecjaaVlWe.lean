/- Enter. -/
import Derived.Test.YtjpmnmgnbpecjaaVlW
namespace Go.Proofs.Ytjpmnmgnbpecjaa
open Go.Shelf Go.RowKit Go.Lib Go.Sort
open Go.ChangeMaps (setBlock)
set_option linter.unusedSimpArgs false
set_option linter.unusedVariables false
variable {w : World} {p : Nat} {mp : Nat → Option Nat} {L : Lv}

theorem LInv.view (hi : LInv L) (v : Int) : LInv { L with vw := v } := ⟨hi.n, hi.lo, hi.vts⟩
/-- The places by rising numbers, as cells of a block. -/
def RisB (w : World) (g : Nat) (p : Nat) (L : Lv) : Prop := ∃ cur, Blk w g cur 73 ∧ ∀ i, i < 8 → cur[i]? = some (risP p L i)
theorem ris_blk {w : World} {base : Nat} {v : Value} {L : Lv} {p : Nat} (h : w.ownsRow base 73 1 v 8 (ris p L 8)) : ∃ g cap, v = .slice (some ⟨g, 0, none⟩) 8 cap ∧ base ≤ g ∧ RisB w g p L := by
  rcases h.2 with ⟨h1, h2⟩ | ⟨g, cap, cur, h1, h2, h3, h4, h5, h6, h7⟩
  · omega
  · refine ⟨g, cap, h1, h2, cur, h3, fun i hi => ?_⟩
    have e1 : (ris p L 8)[i]? = some (risP p L i) := by simp [ris, hi]
    rw [← h7, List.getElem?_take, if_pos (by omega)] at e1
    simpa using e1
set_option maxHeartbeats 16000000 in
set_option maxRecDepth 100000 in
theorem enter_calls (h : Lg w p mp L) (hi : LInv L) (v : Int) : Calls Try.prog 12 #[.pointer (some ⟨p, 0, none⟩), .int .i64 v] w (Done w p mp (L.enter v)) := by
  have hm := made_calls h hi
  have c1 := h.c1
  have hself : Hid (Lg w p mp L ∧ Stp p mp w mp w) := ⟨h, Stp.of_below (Below.refl _ _)⟩
  by_cases g1 : v ≤ L.vw
  · have hR : L.enter v = (L, 1) := by unfold Lv.enter; rw [if_pos (Or.inl g1)]
    rw [hR]
    have d1 : decide (v ≤ L.vw) = true := decide_eq_true g1
    clear h hi hR
    go_enter Try.func12, Try.ntmps12
    go_wp2_with fail
    refine hm.mono ?_
    rintro e w1 ⟨rfl, hw1⟩
    obtain rfl := hw1.symm
    go_wp2
    go_ret
    exact ⟨rfl, mp, hself.out⟩
  have d1 : decide (v ≤ L.vw) = false := decide_eq_false g1
  by_cases g2 : 1048576 < v
  · have hR : L.enter v = (L, 1) := by unfold Lv.enter; rw [if_pos (Or.inr g2)]
    rw [hR]
    have d2 : decide (1048576 < v) = true := decide_eq_true g2
    clear h hi hR
    go_enter Try.func12, Try.ntmps12
    go_wp2_with fail
    refine hm.mono ?_
    rintro e w1 ⟨rfl, hw1⟩
    obtain rfl := hw1.symm
    go_wp2
    go_ret
    exact ⟨rfl, mp, hself.out⟩
  have d2 : decide (1048576 < v) = false := decide_eq_false g2
  have hR : L.enter v = ({ L with vw := v, sl := fun j => (L.sl j).forget }, 0) := by unfold Lv.enter; rw [if_neg (by omega)]
  rw [hR]
  have f1 : w.frozen? ⟨p, 1, none⟩ = false := h.fr _
  obtain ⟨W1, hW1, l1, s1⟩ : ∃ W1, w.setCell ⟨p, 1, none⟩ (.int .i64 v) = W1 ∧ Lg W1 p mp { L with vw := v } ∧ Stp p mp w mp W1 := ⟨_, rfl, h.setView v, stp_setCells p mp w 1 [.int .i64 v]⟩
  have HRi : Hid _ := rising_calls l1 (hi.view v)
  have HL1 : Hid _ := l1
  have HS1 : Hid _ := s1
  have hpl : p < w.heap.size := h.lt
  generalize hL1 : ({ L with vw := v } : Lv) = M at *
  have HMe : Hid (M = { L with vw := v }) := hL1.symm
  have hinf : (Try.prog.info? 63).map (·.size) = some (#[Value.int .i64 0, Value.string ⟨#[]⟩, Value.string ⟨#[]⟩, Value.map none, Value.map none]).size := by kernel_rfl
  have hone : (#[Value.int .i64 0, Value.string ⟨#[]⟩, Value.string ⟨#[]⟩, Value.map none, Value.map none]).all (·.oneCell') = true := by kernel_rfl
  clear h hi hR l1 s1 g1 g2 hL1
  go_enter Try.func12, Try.ntmps12
  go_wp2_with fail
  refine hm.mono ?_
  rintro e w1 ⟨rfl, hw1⟩
  obtain rfl := hw1.symm
  go_wp2_with fail
  refine Calls.mono HRi.out ?_
  rintro e w2 ⟨rv, rfl, hown, b2⟩
  obtain ⟨g, cap, rfl, hgb, hris⟩ := ris_blk hown
  have l2 := Lg.below HL1.out b2
  have s2 := Stp.trans HS1.out (Stp.of_below b2)
  have HRB : Hid (RisB w2 g p M) := hris
  have HL2 : Hid _ := l2
  have HS2 : Hid _ := s2
  have hgp : g ≠ p := by have := (Lg.lt HL1.out); omega
  clear hown hris l2 s2 HRi
  go_wp2_with fail
  go_loopw [31] (fun iv wr => ∃ (k : Nat) (mpk : Nat → Option Nat), k ≤ 8 ∧ iv = .int .i64 k ∧ Hid (Lg wr p mpk (M.fgt k)) ∧ Hid (Stp p mp w mpk wr) ∧ Hid (RisB wr g p M)) (fun iv _ => 8 - (intOf iv).toNat)
  case atStart => exact ⟨0, mp, by decide, rfl, by show Lg _ _ _ _; rw [fgt_zero]; exact HL2.out, HS2, HRB⟩
  case round =>
    obtain ⟨k, mpk, hk, rfl, HLk, HSk, HRk⟩ := hrel
    by_cases hlt : k < 8
    · have hd : decide ((k : Int) < 8) = true := by simp only [decide_eq_true_eq]; omega
      obtain ⟨cur, hBc, hcur⟩ := HRk.out
      have c0 : wr.cell? ⟨g, k, none⟩ = some (.pointer (some ⟨p, 3 + pla (M.lo + 1 + (k : Int)) * 13, none⟩)) := hBc.cell (hcur k hlt)
      have hkk := pla_lt (M.lo + 1 + (k : Int))
      obtain ⟨lv, hr, hsg⟩ := Lg.slot HLk.out (pla (M.lo + 1 + (k : Int))) hkk
      have HF : Hid _ := fgt_succ M hlt
      have HFs : Hid _ := fgt_sl M hlt
      have hlo : (M.fgt k).lo = M.lo := rfl
      have ht : wr.there p (3 + pla (M.lo + 1 + (k : Int)) * 13) (#[Value.int .i64 0, Value.string ⟨#[]⟩, Value.string ⟨#[]⟩, Value.map none, Value.map none]).size := Lg.there HLk.out (by simp; omega)
      obtain ⟨W3, hW3, l3, s3, b3⟩ : ∃ W3, wr.setCells p (3 + pla (M.lo + 1 + (k : Int)) * 13) (#[Value.int .i64 0, Value.string ⟨#[]⟩, Value.string ⟨#[]⟩, Value.map none, Value.map none]).toList = W3 ∧ Lg W3 p (mpx mpk (pla (M.lo + 1 + (k : Int)))) (M.fgt (k + 1)) ∧ Stp p mpk wr (mpx mpk (pla (M.lo + 1 + (k : Int)))) W3 ∧ Blk W3 g cur 73 := by
        refine ⟨_, rfl, ?_, stp_wipe p mpk wr _ _ _, (heap_setCells_other p _ _ wr g hgp).trans hBc⟩
        rw [← HF.out]
        rw [HFs.out] at hr hsg
        exact Lg.wipe HLk.out hkk (by simp) (s' := (M.sl (pla (M.lo + 1 + (k : Int)))).forget) (lv := lv) (lv' := lv) (by rw [HFs.out]; exact hr) (by rw [HFs.out]; rfl) hsg rfl rfl
      have HL3 : Hid _ := l3
      have HS3 : Hid _ := Stp.trans HSk.out s3
      have HR3 : Hid (RisB W3 g p M) := ⟨cur, b3, hcur⟩
      clear hr hsg l3 s3 b3 hBc hcur HF HFs HLk HSk HRk hlo
      generalize pla (M.lo + 1 + (k : Int)) = kk at *
      generalize 3 + kk * 13 = o at *
      go_wp2_with (with_reducible refine st_mid ht hinf hone hW3 rfl rfl ?_)
      refine ⟨⟨k + 1, mpx mpk kk, by omega, by norm_cast, HL3, HS3, HR3⟩, by simp [intOf]; omega⟩
    · have hd : decide ((k : Int) < 8) = false := by simp only [decide_eq_false_iff_not]; omega
      have : k = 8 := by omega
      subst this
      go_wp2
      go_ret
      refine ⟨rfl, mpk, ?_, HSk.out⟩
      refine Lg.congr HLk.out (by rw [HMe.out]; rfl) (by rw [HMe.out]; rfl) (by rw [HMe.out]; rfl) (by rw [HMe.out]; rfl) (fun j hj => ?_)
      rw [HMe.out]
      show _ = if j < 8 ∧ _ < 8 then _ else _
      rw [if_pos ⟨hj, idx_lt _ _⟩]
end Go.Proofs.Ytjpmnmgnbpecjaa
