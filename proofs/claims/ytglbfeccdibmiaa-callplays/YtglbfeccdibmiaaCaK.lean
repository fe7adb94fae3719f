/- Put. -/
import Derived.Test.YtglbfeccdibmiaaCaJ
namespace Go.Proofs.Ytglbfeccdibmiaa
open Go.Shelf Go.RowKit Go.Lib Go.Sort
set_option linter.unusedSimpArgs false
set_option linter.unusedVariables false
variable {base p : Nat} {v : Value} {B : Bo}

def Bo.put (B : Bo) (o : Od) : Int × Bo :=
  if mayB o = false ∨ o.pl ≠ 0 then (1, B) else if 0 ≤ fnd B.os o.id then (63, B) else if B.os.length = 64 ∨ B.nx = 9007199254740992 then (2, B) else (0, B.stand o)
theorem may_at (o : Od) (n : Int) : mayB (o.at_ n) = mayB o := rfl
theorem BInv.stand (h : BInv B) (o : Od) (hm : mayB o = true) (hid : ∀ x ∈ B.os, x.id ≠ o.id) (hl : B.os.length < 64) (hn : B.nx ≠ 9007199254740992) : BInv (B.stand o) := by
  have h1 := h.nx1
  have h2 := h.nx2
  refine ⟨by simp [Bo.stand]; omega, by simp [Bo.stand]; omega, by simp [Bo.stand]; omega, ?_, ?_, ?_, ?_⟩
  · intro x hx
    rcases List.mem_append.1 hx with e | e
    · exact h.may x e
    · rw [List.mem_singleton.1 e, may_at]; exact hm
  · refine List.pairwise_append.2 ⟨h.ids, List.pairwise_singleton _ _, fun a ha b hb => ?_⟩
    rw [List.mem_singleton.1 hb]; exact hid a ha
  · refine List.pairwise_append.2 ⟨h.pls, List.pairwise_singleton _ _, fun a ha b hb => ?_⟩
    rw [List.mem_singleton.1 hb]; exact (h.pl a ha).2
  · intro x hx
    show 1 ≤ x.pl ∧ x.pl < B.nx + 1
    rcases List.mem_append.1 hx with e | e
    · have := h.pl x e; omega
    · rw [List.mem_singleton.1 e]
      show 1 ≤ B.nx ∧ B.nx < B.nx + 1
      omega

set_option maxHeartbeats 4000000 in
set_option maxRecDepth 100000 in
theorem put_calls (o : Od) (w : World) (h : Bk w base p v B) (hB : base ≤ w.heap.size) (r : Int × Bo) (hr : B.put o = r) :
    Calls Try.prog 17 #[.pointer (some ⟨p, 0, none⟩), .agg (oC o).toArray] w fun e w' => e = .returned (.int .i64 r.1) ∧ ∃ v', Bst w w' base p v v' r.2 := by
  have hun := Try.underlying31
  have h6 := infoO6 o
  obtain ⟨W1, hW1, X1, B1, Z1⟩ : ∃ W1, (w.alloc (.cells #[.int .i64 o.id, .int .i64 o.own, .int .i64 o.pr, .int .i64 o.am, .int .i64 o.pl, .bool o.by] 31)) = W1 ∧ Blk W1 w.heap.size (oC o).toArray 31 ∧ Below w.heap.size w W1 ∧ W1.heap.size = w.heap.size + 1 :=
    ⟨_, rfl, blk_new _ _ _ _ rfl, by go_grown, by simp⟩
  have K1 := h.below B1
  have hm := made_calls W1 K1
  have hmay := mayBe_calls o W1
  have x4 : W1.cell? ⟨w.heap.size, 4, none⟩ = some (.int .i64 o.pl) := X1.cell rfl
  have xa : W1.cell? ⟨w.heap.size, 0, none⟩ = some (.int .i64 o.id) := X1.cell rfl
  have xb : W1.cell? ⟨w.heap.size, 1, none⟩ = some (.int .i64 o.own) := X1.cell rfl
  have xc : W1.cell? ⟨w.heap.size, 2, none⟩ = some (.int .i64 o.pr) := X1.cell rfl
  have xd : W1.cell? ⟨w.heap.size, 3, none⟩ = some (.int .i64 o.am) := X1.cell rfl
  have xe : W1.cell? ⟨w.heap.size, 5, none⟩ = some (.bool o.by) := X1.cell rfl
  have HH : Hid _ := h
  unfold Bo.put at hr
  cases hmb : mayB o
  · rw [if_pos (Or.inl hmb)] at hr
    subst hr
    rw [hmb] at hmay
    have HM : Hid _ := hmay
    clear hmay h
    unfold oC at X1 h6 ⊢
    go_enter Try.func17, Try.ntmps17
    go_wp2_with fail
    refine hm.mono ?_
    rintro e w1 ⟨rfl, rfl⟩
    go_wp2_with fail
    refine Calls.mono HM.out ?_
    rintro e w2 ⟨rfl, g2⟩
    go_wp2
    go_ret
    exact ⟨rfl, v, Bst.same HH.out (B1.trans (g2.below.mono (by omega)))⟩
  · rw [hmb] at hmay
    have HM : Hid _ := hmay
    by_cases hpl : o.pl = 0
    · rw [if_neg (by simp [hmb, hpl])] at hr
      have hq : (o.pl == 0) = true := by simpa using hpl
      have hmb1 := hmb
      have HMB : Hid _ := hmb
      rcases fnd_cases B.os o.id with ⟨f1, f2⟩ | ⟨i, q, f1, f2, f3, f4⟩
      · rw [if_neg (by rw [f1]; decide)] at hr
        by_cases hfull : B.os.length = 64 ∨ B.nx = 9007199254740992
        · rw [if_pos hfull] at hr
          subst hr
          have HF : Hid _ := fun (w2 : World) (b2 : Below W1.heap.size W1 w2) => find_calls o.id w2 (K1.below b2)
          rw [f1] at HF
          have HO : Hid _ := fun (w2 : World) (b2 : Below W1.heap.size W1 w2) => outOf_calls w2 (K1.below b2)
          have HL : Hid _ := fun (w2 : World) (b2 : Below W1.heap.size W1 w2) => K1.below b2
          obtain ⟨oc, ocap, rfl⟩ := own_form h.row
          have hlen := h.inv.len
          have X1' := X1
          have Z2 : w.heap.size < W1.heap.size := by omega
          clear hmay h f1 f2 K1 hpl hmb hmb1 Z1
          unfold oC at X1 h6 ⊢
          by_cases h64 : B.os.length = 64
          · have q64 : ((B.os.length : Int) == 64) = true := by simp; omega
            have HQ : Hid _ := h64
            clear hfull h64
            go_enter Try.func17, Try.ntmps17
            go_wp2_with fail
            refine hm.mono ?_
            rintro e w1 ⟨rfl, rfl⟩
            go_wp2_with fail
            refine Calls.mono HM.out ?_
            rintro e w2 ⟨rfl, g2⟩
            have x0 : w2.cell? ⟨w.heap.size, 0, none⟩ = some (.int .i64 o.id) := g2.cell (X1'.cell rfl)
            have x4' : w2.cell? ⟨w.heap.size, 4, none⟩ = some (.int .i64 o.pl) := g2.cell x4
            go_wp2_with fail
            refine Calls.mono (HF.out w2 g2.below) ?_
            rintro e w3 ⟨rfl, b3⟩
            have B3 := g2.below.trans (b3.mono g2.below.size)
            have c1 : w3.cell? ⟨p, 1, none⟩ = some (.slice oc B.os.length ocap) := (HL.out w3 B3).blk.cell rfl
            go_wp2
            go_ret
            exact ⟨rfl, _, Bst.same HH.out (B1.trans (B3.mono (by omega)))⟩
          · have q64 : ((B.os.length : Int) == 64) = false := by simp; omega
            have q65 : ¬ (B.os.length : Int) = 64 := by omega
            have hnx : B.nx = 9007199254740992 := hfull.resolve_left h64
            rw [show decide (B.nx = 9007199254740992) = true from decide_eq_true hnx] at HO
            clear hfull h64 hnx
            go_enter Try.func17, Try.ntmps17
            go_wp2_with fail
            refine hm.mono ?_
            rintro e w1 ⟨rfl, rfl⟩
            go_wp2_with fail
            refine Calls.mono HM.out ?_
            rintro e w2 ⟨rfl, g2⟩
            have x0 : w2.cell? ⟨w.heap.size, 0, none⟩ = some (.int .i64 o.id) := g2.cell (X1'.cell rfl)
            have x4' : w2.cell? ⟨w.heap.size, 4, none⟩ = some (.int .i64 o.pl) := g2.cell x4
            go_wp2_with fail
            refine Calls.mono (HF.out w2 g2.below) ?_
            rintro e w3 ⟨rfl, b3⟩
            have B3 := g2.below.trans (b3.mono g2.below.size)
            have c1 : w3.cell? ⟨p, 1, none⟩ = some (.slice oc B.os.length ocap) := (HL.out w3 B3).blk.cell rfl
            go_wp2_with fail
            refine Calls.mono (HO.out w3 B3) ?_
            rintro e w4 ⟨rfl, rfl⟩
            go_wp2
            go_ret
            exact ⟨rfl, _, Bst.same HH.out (B1.trans (B3.mono (by omega)))⟩
        · rw [if_neg hfull] at hr
          subst hr
          have h64 : ¬ B.os.length = 64 := fun e => hfull (Or.inl e)
          have hnx : ¬ B.nx = 9007199254740992 := fun e => hfull (Or.inr e)
          have HF : Hid _ := fun (w2 : World) (b2 : Below W1.heap.size W1 w2) => find_calls o.id w2 (K1.below b2)
          rw [f1] at HF
          have HO : Hid _ := fun (w2 : World) (b2 : Below W1.heap.size W1 w2) => outOf_calls w2 (K1.below b2)
          rw [show decide (B.nx = 9007199254740992) = false from decide_eq_false hnx] at HO
          have HL : Hid _ := fun (w2 : World) (b2 : Below W1.heap.size W1 w2) => K1.below b2
          have HI : Hid _ := h.inv.stand o hmb f2 (by have := h.inv.len; omega) hnx
          have HS : Hid _ := fun (w2 : World) (b2 : Below W1.heap.size W1 w2) => stand_calls o w2 (K1.below b2) (by have := b2.size; omega) HI.out
          obtain ⟨oc, ocap, rfl⟩ := own_form h.row
          have hlen := h.inv.len
          have X1' := X1
          have Z2 : w.heap.size < W1.heap.size := by omega
          have q64 : ((B.os.length : Int) == 64) = false := by simp; omega
          have q65 : ¬ (B.os.length : Int) = 64 := by omega
          clear hmay h f1 f2 K1 hpl hmb hmb1 hfull h64 hnx Z1
          unfold oC at X1 h6 ⊢
          go_enter Try.func17, Try.ntmps17
          go_wp2_with fail
          refine hm.mono ?_
          rintro e w1 ⟨rfl, rfl⟩
          go_wp2_with fail
          refine Calls.mono HM.out ?_
          rintro e w2 ⟨rfl, g2⟩
          have x0 : w2.cell? ⟨w.heap.size, 0, none⟩ = some (.int .i64 o.id) := g2.cell (X1'.cell rfl)
          have x4' : w2.cell? ⟨w.heap.size, 4, none⟩ = some (.int .i64 o.pl) := g2.cell x4
          go_wp2_with fail
          refine Calls.mono (HF.out w2 g2.below) ?_
          rintro e w3 ⟨rfl, b3⟩
          have B3 := g2.below.trans (b3.mono g2.below.size)
          have c1 : w3.cell? ⟨p, 1, none⟩ = some (.slice oc B.os.length ocap) := (HL.out w3 B3).blk.cell rfl
          have X3 := X1.below B3
          go_wp2_with fail
          refine Calls.mono (HO.out w3 B3) ?_
          rintro e w4 ⟨rfl, rfl⟩
          go_wp2_with ((with_reducible refine rd_row (ty := 31) X3 hun rfl h6 ?_ ?_); rfl)
          refine Calls.mono (HS.out w4 B3) ?_
          rintro e w5 ⟨rfl, v5, S5⟩
          go_wp2
          go_ret
          exact ⟨rfl, v5, Bst.first (B1.trans (B3.mono (by omega))) S5⟩
      · rw [if_pos (by rw [f1]; omega)] at hr
        subst hr
        have HF : Hid _ := fun (w2 : World) (b2 : Below W1.heap.size W1 w2) => find_calls o.id w2 (K1.below b2)
        rw [f1] at HF
        have X1' := X1
        have hi0 : (0 : Int) ≤ (i : Int) := by omega
        have Z2 : w.heap.size < W1.heap.size := by omega
        clear hmay h f1 f2 f3 K1 hpl hmb hmb1 Z1
        unfold oC at X1 h6 ⊢
        go_enter Try.func17, Try.ntmps17
        go_wp2_with fail
        refine hm.mono ?_
        rintro e w1 ⟨rfl, rfl⟩
        go_wp2_with fail
        refine Calls.mono HM.out ?_
        rintro e w2 ⟨rfl, g2⟩
        have x0 : w2.cell? ⟨w.heap.size, 0, none⟩ = some (.int .i64 o.id) := g2.cell (X1'.cell rfl)
        have x4' : w2.cell? ⟨w.heap.size, 4, none⟩ = some (.int .i64 o.pl) := g2.cell x4
        go_wp2_with fail
        refine Calls.mono (HF.out w2 g2.below) ?_
        rintro e w3 ⟨rfl, b3⟩
        have B3 := g2.below.trans (b3.mono g2.below.size)
        go_wp2
        go_ret
        exact ⟨rfl, _, Bst.same HH.out (B1.trans (B3.mono (by omega)))⟩
    · rw [if_pos (Or.inr hpl)] at hr
      subst hr
      have hq : (o.pl == 0) = false := by simpa using hpl
      have X1' := X1
      have Z2 : w.heap.size < W1.heap.size := by omega
      clear hmay h hmb Z1
      unfold oC at X1 h6 ⊢
      go_enter Try.func17, Try.ntmps17
      go_wp2_with fail
      refine hm.mono ?_
      rintro e w1 ⟨rfl, rfl⟩
      go_wp2_with fail
      refine Calls.mono HM.out ?_
      rintro e w2 ⟨rfl, g2⟩
      have x4' : w2.cell? ⟨w.heap.size, 4, none⟩ = some (.int .i64 o.pl) := g2.cell x4
      go_wp2
      go_ret
      exact ⟨rfl, _, Bst.same HH.out (B1.trans (g2.below.mono (by omega)))⟩
end Go.Proofs.Ytglbfeccdibmiaa
