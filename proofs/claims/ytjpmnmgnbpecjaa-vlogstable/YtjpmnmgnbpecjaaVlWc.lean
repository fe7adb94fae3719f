/- Cut. -/
import Derived.Test.YtjpmnmgnbpecjaaVlWe
namespace Go.Proofs.Ytjpmnmgnbpecjaa
open Go.Shelf Go.RowKit Go.Lib Go.Sort
open Go.ChangeMaps (setBlock)
set_option linter.unusedSimpArgs false
set_option linter.unusedVariables false
variable {w : World} {p : Nat} {mp : Nat → Option Nat} {L : Lv}

/-- The log behind k rounds of a cut. -/
def Lv.ctk (L : Lv) (q : Int) (k : Nat) : Lv := { L with sl := fun j => if j < 8 ∧ L.idx j < k ∧ L.lo + 1 + (L.idx j : Int) ≤ q then noSlot else L.sl j }
theorem ctk_zero (L : Lv) (q : Int) : L.ctk q 0 = L := by
  unfold Lv.ctk
  have : (fun j => if j < 8 ∧ L.idx j < 0 ∧ L.lo + 1 + (L.idx j : Int) ≤ q then noSlot else L.sl j) = L.sl := by
    funext j
    rw [if_neg (by omega)]
  rw [this]
theorem ctk_yes (L : Lv) {q : Int} {k : Nat} (hk : k < 8) (hq : L.lo + 1 + (k : Int) ≤ q) : (L.ctk q k).set (pla (L.lo + 1 + (k : Int))) noSlot = L.ctk q (k + 1) := by
  unfold Lv.ctk Lv.set
  simp only [Lv.mk.injEq, true_and, and_true]
  funext j
  have e1 := idx_pla L hk
  have e2 := pla_lt (L.lo + 1 + (k : Int))
  by_cases e : j = pla (L.lo + 1 + (k : Int))
  · subst e
    rw [if_pos rfl, if_pos ⟨e2, by omega, by rw [e1]; exact hq⟩]
  · rw [if_neg e]
    by_cases h8 : j < 8
    · have e3 := pla_idx L h8
      have e4 : L.idx j ≠ k := fun e4 => e (by rw [← e3, e4])
      by_cases e5 : L.idx j < k ∧ L.lo + 1 + (L.idx j : Int) ≤ q
      · rw [if_pos ⟨h8, e5⟩, if_pos ⟨h8, by omega, e5.2⟩]
      · rw [if_neg (fun x => e5 x.2), if_neg (fun x => e5 ⟨by have := x.2.1; omega, x.2.2⟩)]
    · rw [if_neg (fun x => h8 x.1), if_neg (fun x => h8 x.1)]
theorem ctk_no (L : Lv) {q : Int} {k : Nat} (hk : k < 8) (hq : ¬ L.lo + 1 + (k : Int) ≤ q) : L.ctk q k = L.ctk q (k + 1) := by
  unfold Lv.ctk
  simp only [Lv.mk.injEq, true_and, and_true]
  funext j
  by_cases h8 : j < 8
  · by_cases e4 : L.idx j = k
    · rw [if_neg (fun x => by have := x.2.1; omega), if_neg (fun x => hq (by rw [← e4]; exact x.2.2))]
    · by_cases e5 : L.idx j < k ∧ L.lo + 1 + (L.idx j : Int) ≤ q
      · rw [if_pos ⟨h8, e5⟩, if_pos ⟨h8, by omega, e5.2⟩]
      · rw [if_neg (fun x => e5 x.2), if_neg (fun x => e5 ⟨by have := x.2.1; omega, x.2.2⟩)]
  · rw [if_neg (fun x => h8 x.1), if_neg (fun x => h8 x.1)]
set_option maxHeartbeats 16000000 in
set_option maxRecDepth 100000 in
theorem ringCut_calls (h : Lg w p mp L) (hi : LInv L) (q : Int) (hq : q ≤ 1073741824) : Calls Try.prog 40 #[.pointer (some ⟨p, 2, none⟩), .int .i64 q] w fun e w' => e = .returned (.tuple #[]) ∧ ∃ mp', Lg w' p mp' { L.ctk q 8 with lo := q } ∧ Stp p mp w mp' w' := by
  obtain ⟨W0, hW0, XZ, B0, Z0⟩ : ∃ W0, (w.alloc (.cells #[Value.int .i64 0, Value.string ⟨#[]⟩, Value.string ⟨#[]⟩, Value.map none, Value.map none, Value.int .i64 0, Value.int .i64 0, Value.int .i64 0, Value.int .i64 0, Value.int .i64 0, Value.string ⟨#[]⟩, Value.string ⟨#[]⟩, Value.slice none 0 0] 65)) = W0 ∧ Blk W0 w.heap.size #[Value.int .i64 0, Value.string ⟨#[]⟩, Value.string ⟨#[]⟩, Value.map none, Value.map none, Value.int .i64 0, Value.int .i64 0, Value.int .i64 0, Value.int .i64 0, Value.int .i64 0, Value.string ⟨#[]⟩, Value.string ⟨#[]⟩, Value.slice none 0 0] 65 ∧ Below w.heap.size w W0 ∧ W0.heap.size = w.heap.size + 1 :=
    ⟨_, rfl, blk_new _ _ _ _ rfl, by go_grown, by simp⟩
  have hlo := hi.lo
  have l0 := h.below B0
  have HRi : Hid _ := rising_calls l0 hi
  have HL0 : Hid _ := l0
  have HS0 : Hid (Stp p mp w mp W0) := Stp.of_below B0
  have HPL : Hid (p < w.heap.size) := h.lt
  have hinf : (Try.prog.info? 65).map (·.size) = some (#[Value.int .i64 0, Value.string ⟨#[]⟩, Value.string ⟨#[]⟩, Value.map none, Value.map none, Value.int .i64 0, Value.int .i64 0, Value.int .i64 0, Value.int .i64 0, Value.int .i64 0, Value.string ⟨#[]⟩, Value.string ⟨#[]⟩, Value.slice none 0 0]).size := by kernel_rfl
  have hone : (#[Value.int .i64 0, Value.string ⟨#[]⟩, Value.string ⟨#[]⟩, Value.map none, Value.map none, Value.int .i64 0, Value.int .i64 0, Value.int .i64 0, Value.int .i64 0, Value.int .i64 0, Value.string ⟨#[]⟩, Value.string ⟨#[]⟩, Value.slice none 0 0]).all (·.oneCell') = true := by kernel_rfl
  have hw1 : IntKind.i64.wrap (L.lo + 1) = L.lo + 1 := by rw [IntKind.wrap_i64]; omega
  have HZ : Hid _ := Z0
  have HB0 : Hid _ := B0
  have hzw : w.heap.size < W0.heap.size := by omega
  clear h hi l0 Z0 B0
  go_enter Try.func40, Try.ntmps40
  go_wp2_with fail
  refine Calls.mono HRi.out ?_
  rintro e w2 ⟨rv, rfl, hown, b2⟩
  obtain ⟨g, cap, rfl, hgb, hris⟩ := ris_blk hown
  have HRB : Hid (RisB w2 g p L) := hris
  have HL2 : Hid _ := Lg.below HL0.out b2
  have HS2 : Hid _ := Stp.trans HS0.out (Stp.of_below b2)
  have HZ2 : Hid _ := XZ.below b2
  have hgp : g ≠ p := by have := HPL.out; omega
  have hzp : w.heap.size ≠ p := by have := HPL.out; omega
  clear hown hris HRi XZ b2 HS0
  go_wp2_with fail
  go_loopw [10] (fun iv wr => ∃ (k : Nat) (mpk : Nat → Option Nat), k ≤ 8 ∧ iv = .int .i64 k ∧ Hid (Lg wr p mpk (L.ctk q k)) ∧ Hid (Stp p mp w mpk wr) ∧ Hid (RisB wr g p L) ∧ Hid (Blk wr w.heap.size #[Value.int .i64 0, Value.string ⟨#[]⟩, Value.string ⟨#[]⟩, Value.map none, Value.map none, Value.int .i64 0, Value.int .i64 0, Value.int .i64 0, Value.int .i64 0, Value.int .i64 0, Value.string ⟨#[]⟩, Value.string ⟨#[]⟩, Value.slice none 0 0] 65)) (fun iv _ => 8 - (intOf iv).toNat)
  case atStart => exact ⟨0, mp, by decide, rfl, by show Lg _ _ _ _; rw [ctk_zero]; exact HL2.out, HS2, HRB, HZ2⟩
  case round =>
    obtain ⟨k, mpk, hk, rfl, HLk, HSk, HRk, HZk⟩ := hrel
    have c2 : wr.cell? ⟨p, 2, none⟩ = some (.int .i64 L.lo) := Lg.c2 (L := L.ctk q k) HLk.out
    by_cases hlt : k < 8
    · have hd : decide ((k : Int) < 8) = true := by simp only [decide_eq_true_eq]; omega
      obtain ⟨cur, hBc, hcur⟩ := HRk.out
      have c0 : wr.cell? ⟨g, k, none⟩ = some (.pointer (some ⟨p, 3 + pla (L.lo + 1 + (k : Int)) * 13, none⟩)) := hBc.cell (hcur k hlt)
      have hw2 : IntKind.i64.wrap (L.lo + 1 + (k : Int)) = L.lo + 1 + (k : Int) := by rw [IntKind.wrap_i64]; omega
      have hkk := pla_lt (L.lo + 1 + (k : Int))
      by_cases hqk : L.lo + 1 + (k : Int) ≤ q
      · have hd2 : decide (L.lo + 1 + (k : Int) ≤ q) = true := decide_eq_true hqk
        obtain ⟨lv, hr, hsg⟩ := Lg.slot HLk.out (pla (L.lo + 1 + (k : Int))) hkk
        have HF : Hid _ := ctk_yes L hlt hqk
        have ht : wr.there p (3 + pla (L.lo + 1 + (k : Int)) * 13) (#[Value.int .i64 0, Value.string ⟨#[]⟩, Value.string ⟨#[]⟩, Value.map none, Value.map none, Value.int .i64 0, Value.int .i64 0, Value.int .i64 0, Value.int .i64 0, Value.int .i64 0, Value.string ⟨#[]⟩, Value.string ⟨#[]⟩, Value.slice none 0 0]).size := Lg.there HLk.out (by simp; omega)
        obtain ⟨W3, hW3, l3, s3, b3, z3⟩ : ∃ W3, wr.setCells p (3 + pla (L.lo + 1 + (k : Int)) * 13) (#[Value.int .i64 0, Value.string ⟨#[]⟩, Value.string ⟨#[]⟩, Value.map none, Value.map none, Value.int .i64 0, Value.int .i64 0, Value.int .i64 0, Value.int .i64 0, Value.int .i64 0, Value.string ⟨#[]⟩, Value.string ⟨#[]⟩, Value.slice none 0 0]).toList = W3 ∧ Lg W3 p (mpx mpk (pla (L.lo + 1 + (k : Int)))) (L.ctk q (k + 1)) ∧ Stp p mpk wr (mpx mpk (pla (L.lo + 1 + (k : Int)))) W3 ∧ Blk W3 g cur 73 ∧ Blk W3 w.heap.size #[Value.int .i64 0, Value.string ⟨#[]⟩, Value.string ⟨#[]⟩, Value.map none, Value.map none, Value.int .i64 0, Value.int .i64 0, Value.int .i64 0, Value.int .i64 0, Value.int .i64 0, Value.string ⟨#[]⟩, Value.string ⟨#[]⟩, Value.slice none 0 0] 65 := by
          refine ⟨_, rfl, ?_, stp_wipe p mpk wr _ _ _, (heap_setCells_other p _ _ wr g hgp).trans hBc, (heap_setCells_other p _ _ wr w.heap.size hzp).trans HZk.out⟩
          rw [← HF.out]
          exact Lg.wipe HLk.out hkk (by simp) (s' := noSlot) (lv := lv) (lv' := .slice none 0 0) hr rfl (Or.inl ⟨rfl, rfl⟩) rfl rfl
        have HL3 : Hid _ := l3
        have HS3 : Hid _ := Stp.trans HSk.out s3
        have HR3 : Hid (RisB W3 g p L) := ⟨cur, b3, hcur⟩
        have HZ3 : Hid _ := z3
        have ZZ : Blk wr w.heap.size #[Value.int .i64 0, Value.string ⟨#[]⟩, Value.string ⟨#[]⟩, Value.map none, Value.map none, Value.int .i64 0, Value.int .i64 0, Value.int .i64 0, Value.int .i64 0, Value.int .i64 0, Value.string ⟨#[]⟩, Value.string ⟨#[]⟩, Value.slice none 0 0] 65 := HZk.out
        clear hr hsg l3 s3 b3 z3 hBc hcur HF HLk HSk HRk HZk
        generalize pla (L.lo + 1 + (k : Int)) = kk at *
        generalize 3 + kk * 13 = o at *
        go_wp2_with (first | (with_reducible refine st_mid ht hinf hone hW3 rfl rfl ?_) | (with_reducible refine rd_row ZZ Try.underlying65 rfl hinf rfl ?_))
        refine ⟨⟨k + 1, mpx mpk kk, by omega, by norm_cast, HL3, HS3, HR3, HZ3⟩, by simp [intOf]; omega⟩
      · have hd2 : decide (L.lo + 1 + (k : Int) ≤ q) = false := decide_eq_false hqk
        have HF : Hid _ := ctk_no L hlt hqk
        clear hBc hcur
        generalize pla (L.lo + 1 + (k : Int)) = kk at *
        generalize 3 + kk * 13 = o at *
        go_wp2
        refine ⟨⟨k + 1, mpk, by omega, by norm_cast, by show Lg _ _ _ _; rw [← HF.out]; exact HLk.out, HSk, HRk, HZk⟩, by simp [intOf]; omega⟩
    · have hd : decide ((k : Int) < 8) = false := by simp only [decide_eq_false_iff_not]; omega
      have : k = 8 := by omega
      subst this
      have f2 : wr.frozen? ⟨p, 2, none⟩ = false := Lg.fr HLk.out _
      obtain ⟨W4, hW4, l4, s4⟩ : ∃ W4, wr.setCell ⟨p, 2, none⟩ (.int .i64 q) = W4 ∧ Lg W4 p mpk { L.ctk q 8 with lo := q } ∧ Stp p mpk wr mpk W4 := ⟨_, rfl, Lg.setLow HLk.out q, stp_setCells p mpk wr 2 [.int .i64 q]⟩
      have HL4 : Hid _ := l4
      have HS4 : Hid _ := Stp.trans HSk.out s4
      clear l4 s4 HLk HSk HRk HZk
      go_wp2
      go_end0
      exact ⟨rfl, mpk, HL4.out, HS4.out⟩
set_option maxHeartbeats 4000000 in
set_option maxRecDepth 100000 in
theorem cut_calls (h : Lg w p mp L) (hi : LInv L) (q : Int) : Calls Try.prog 22 #[.pointer (some ⟨p, 0, none⟩), .int .i64 q] w (Done w p mp (L.cut q)) := by
  have hm := made_calls h hi
  have c2 := h.c2
  have hlo := hi.lo
  have hself : Hid (Lg w p mp L ∧ Stp p mp w mp w) := ⟨h, Stp.of_below (Below.refl _ _)⟩
  by_cases g1 : q ≤ L.lo
  · have hR : L.cut q = (L, 1) := by unfold Lv.cut; rw [if_pos (Or.inl g1)]
    rw [hR]
    have d1 : decide (q ≤ L.lo) = true := decide_eq_true g1
    clear h hi hR
    go_enter Try.func22, Try.ntmps22
    go_wp2_with fail
    refine hm.mono ?_
    rintro e w1 ⟨rfl, hw1⟩
    obtain rfl := hw1.symm
    go_wp2
    go_ret
    exact ⟨rfl, mp, hself.out⟩
  have d1 : decide (q ≤ L.lo) = false := decide_eq_false g1
  by_cases g2 : 1073741824 < q
  · have hR : L.cut q = (L, 1) := by unfold Lv.cut; rw [if_pos (Or.inr (Or.inl g2))]
    rw [hR]
    have d2 : decide (1073741824 < q) = true := decide_eq_true g2
    clear h hi hR
    go_enter Try.func22, Try.ntmps22
    go_wp2_with fail
    refine hm.mono ?_
    rintro e w1 ⟨rfl, hw1⟩
    obtain rfl := hw1.symm
    go_wp2
    go_ret
    exact ⟨rfl, mp, hself.out⟩
  have d2 : decide (1073741824 < q) = false := decide_eq_false g2
  have hmod : q.tmod 4 = q % 4 := Int.tmod_eq_emod_of_nonneg (by omega)
  by_cases g3 : q % 4 = 0
  · have hR : L.cut q = ({ L with lo := q, sl := fun j => if L.num j ≤ q then noSlot else L.sl j }, 0) := by unfold Lv.cut; rw [if_neg (by omega)]
    rw [hR]
    have hmod2 : q.tmod 4 = 0 := by omega
    have HC : Hid _ := ringCut_calls h hi q (by omega)
    clear h hi hR hmod g1 g2 g3
    go_enter Try.func22, Try.ntmps22
    go_wp2_with fail
    refine hm.mono ?_
    rintro e w1 ⟨rfl, hw1⟩
    obtain rfl := hw1.symm
    go_wp2_with fail
    refine Calls.mono HC.out ?_
    rintro e w2 ⟨rfl, mp2, l2, s2⟩
    have HL2 : Hid _ := l2
    have HS2 : Hid _ := s2
    clear l2 s2
    go_wp2
    go_ret
    refine ⟨rfl, mp2, Lg.congr HL2.out rfl rfl rfl rfl (fun j hj => ?_), HS2.out⟩
    show (if L.num j ≤ q then noSlot else L.sl j) = if j < 8 ∧ L.idx j < 8 ∧ L.lo + 1 + (L.idx j : Int) ≤ q then noSlot else L.sl j
    have e : L.num j = L.lo + 1 + (L.idx j : Int) := by unfold Lv.num Lv.idx; omega
    rw [e]
    by_cases hx : L.lo + 1 + (L.idx j : Int) ≤ q
    · rw [if_pos hx, if_pos ⟨hj, idx_lt _ _, hx⟩]
    · rw [if_neg hx, if_neg (fun y => hx y.2.2)]
  · have hR : L.cut q = (L, 1) := by unfold Lv.cut; rw [if_pos (Or.inr (Or.inr g3))]
    rw [hR]
    obtain ⟨rr, hrr⟩ : ∃ rr, q % 4 = rr := ⟨_, rfl⟩
    have d3 : ¬ rr = 0 := by omega
    have d4 : (rr != 0) = true := by simp [d3]
    have d5 : (rr == 0) = false := by simp [d3]
    rw [hrr] at hmod
    clear h hi hR hrr g3
    go_enter Try.func22, Try.ntmps22
    go_wp2_with fail
    refine hm.mono ?_
    rintro e w1 ⟨rfl, hw1⟩
    obtain rfl := hw1.symm
    go_wp2
    go_ret
    exact ⟨rfl, mp, hself.out⟩
end Go.Proofs.Ytjpmnmgnbpecjaa
