/- Bytes: a book's numbers, laid one behind the other. -/
import Derived.Test.YtladgfngddgnlaaGreatDoorHy20
import Derived.Test.YtladgfngddgnlaaGreatDoorHy22
import Derived.Test.YtladgfngddgnlaaGreatDoorHy28
import Derived.Deep.RegionHeldLaw
import Derived.Deep.RegionHeld3
import Derived.Deep.RegionLaw
namespace Go.Proofs.YtladgfngddgnlaaGreatDoor.Cal
open Go.Shelf Go.RowKit Go.Lib Go.Sort
set_option linter.unusedSimpArgs false
set_option linter.unusedVariables false
variable {base p : Nat} {v : Value} {B : Bo}

/-- The six numbers of an order; of a book. -/
def sdN (o : Od) : Int := if o.by then 0 else 1
def odN (o : Od) : List Int := [o.id, o.own, sdN o, o.pr, o.am, o.pl]
def bnK (B : Bo) (k : Nat) : List Int := [B.nx, B.os.length] ++ (B.os.take k).flatMap odN
def bN (B : Bo) : List Int := bnK B B.os.length
def boB (B : Bo) : ByteArray := ⟨(encs (bN B)).toArray⟩
def iLb (l : List Int) : List Value := l.map (Value.int .i64)
theorem bnK_succ {k : Nat} {o : Od} (h : B.os[k]? = some o) : bnK B (k + 1) = bnK B k ++ odN o := by
  unfold bnK
  rw [List.take_add_one, h]
  simp
theorem odN_all : ∀ l : List Od, (l.flatMap odN).length = 6 * l.length
  | [] => rfl
  | o :: l => by rw [List.flatMap_cons, List.length_append, odN_all l]; simp [odN]; omega
theorem bnK_len {k : Nat} (h : k ≤ B.os.length) : (bnK B k).length = 2 + 6 * k := by
  unfold bnK
  rw [List.length_append, odN_all, List.length_take, Nat.min_eq_left h]
  rfl
theorem BInv.fit (h : BInv B) : ∀ x ∈ bN B, 0 ≤ x ∧ x ≤ 9007199254740992 := by
  intro x hx
  unfold bN bnK at hx
  rw [List.mem_append] at hx
  rcases hx with hx | hx
  · have h1 := h.nx1
    have h2 := h.nx2
    have h3 := h.len
    simp at hx
    rcases hx with rfl | rfl <;> omega
  · obtain ⟨o, ho, hx⟩ := List.mem_flatMap.1 hx
    have ho := List.mem_of_mem_take ho
    have hm := h.may o ho
    have hp := h.pl o ho
    have h2 := h.nx2
    unfold mayB at hm
    simp only [Bool.and_eq_true, decide_eq_true_eq] at hm
    simp only [odN, List.mem_cons, List.not_mem_nil, or_false] at hx
    rcases hx with rfl | rfl | rfl | rfl | rfl | rfl
    · omega
    · omega
    · unfold sdN; split <;> omega
    · omega
    · omega
    · omega
theorem infoIntB : (Tryz.prog.info? 3).map (fun i => (i.zero, i.size, i.bytes)) = some (some (.int .i64 0), 1, 8) := by kernel_rfl
theorem step_ifB {P : Program} {ops : Array Oper} {o : Oper} {a : Act} {w : World} {K : Act → World → Prop} {Q : Exit → Act → World → Prop} {E : Prop} (hg : o.guard = none) (h : Oper.wp P o a w K Q) :
    if Region.wanted o (yielded ops a.tmps) = true then Oper.wp P o a w K Q else E := by
  have hw : Region.wanted o (yielded ops a.tmps) = true := by simp [Region.wanted, hg]
  rw [if_pos hw]; exact h
theorem keepY {w w' : World} (hb : Below w.heap.size w w') {a : Addr} {u : Value} (h : w.cell? a = some u) : w'.cell? a = some u := (hb.cell (World.block_lt_of_cell? w _ h)).trans h
set_option maxRecDepth 100000 in
theorem sideOf_calls (o : Od) (w : World) : Calls Tryz.prog 39 #[.agg #[.int .i64 o.id, .int .i64 o.own, .int .i64 o.pr, .int .i64 o.am, .int .i64 o.pl, .bool o.by]] w fun e w' => e = .returned (.int .i64 (sdN o)) ∧ Below w.heap.size w w' := by
  unfold sdN
  obtain ⟨W1, hW1, X1, B1⟩ : ∃ W1, w.alloc (.cells #[.int .i64 o.id, .int .i64 o.own, .int .i64 o.pr, .int .i64 o.am, .int .i64 o.pl, .bool o.by] 92) = W1 ∧ Blk W1 w.heap.size #[.int .i64 o.id, .int .i64 o.own, .int .i64 o.pr, .int .i64 o.am, .int .i64 o.pl, .bool o.by] 92 ∧ Below w.heap.size w W1 := ⟨_, rfl, blk_new _ _ _ _ rfl, by go_grown⟩
  have c5 : W1.cell? ⟨w.heap.size, 5, none⟩ = some (.bool o.by) := X1.cell rfl
  cases hb : o.by
  · rw [hb] at c5 hW1
    go_enter Tryz.func39, Tryz.ntmps39
    go_wp2
    go_ret
    exact ⟨rfl, B1⟩
  · rw [hb] at c5 hW1
    go_enter Tryz.func39, Tryz.ntmps39
    go_wp2
    go_ret
    exact ⟨rfl, B1⟩

set_option maxRecDepth 100000 in
set_option maxHeartbeats 8000000 in
theorem bytes_calls (w : World) (h : Bk w base p v B) : Calls Tryz.prog 18 #[.pointer (some ⟨p, 0, none⟩)] w fun e w' => e = .returned (.string (boB B)) ∧ Below w.heap.size w w' := by
  obtain ⟨i0, hi, hz0, hz1, hz2⟩ := info_parts infoIntB
  have hma := made_calls w h
  have hlen := h.inv.len
  have HFit : Hid _ := h.inv.fit
  obtain ⟨oc, ocap, rfl⟩ := own_form h.row
  have c0 : w.cell? ⟨p, 0, none⟩ = some (.int .i64 B.nx) := h.blk.cell rfl
  have c1 : w.cell? ⟨p, 1, none⟩ = some (.slice oc B.os.length ocap) := h.blk.cell rfl
  have HB : Hid _ := h
  have HBk : Hid _ := h.blk
  clear h
  go_enter Tryz.func18, Tryz.ntmps18
  go_wp2_with fail
  refine hma.mono ?_
  rintro e w1 ⟨rfl, rfl⟩
  clear hma
  go_wp2_with fail
  refine wp_region_held_drew (S := (fun wx => wx.cell? ⟨p, 0, none⟩ = some (.int .i64 B.nx) ∧ wx.cell? ⟨p, 1, none⟩ = some (.slice oc B.os.length ocap))) (by kernel_rfl) ⟨c0, c1⟩ (fun hS => ?_)
  refine tkH (i := 0) (v := (.pointer (some ⟨p, 0, none⟩))) rfl (fun w hS => by obtain ⟨s0, s1⟩ := hS; go_simp) hS ?_
  refine tkH (i := 1) (v := (.pointer (some ⟨p, 0, none⟩))) rfl (fun w hS => by obtain ⟨s0, s1⟩ := hS; go_simp) hS ?_
  refine tkH (i := 2) (v := (.pointer (some ⟨p, 0, none⟩))) rfl (fun w hS => by obtain ⟨s0, s1⟩ := hS; go_simp) hS ?_
  refine tkH (i := 3) (v := (.int .i64 B.nx)) rfl (fun w hS => by obtain ⟨s0, s1⟩ := hS; go_simp) hS ?_
  refine tkH (i := 4) (v := (.pointer (some ⟨p, 0, none⟩))) rfl (fun w hS => by obtain ⟨s0, s1⟩ := hS; go_simp) hS ?_
  refine tkH (i := 5) (v := (.pointer (some ⟨p, 0, none⟩))) rfl (fun w hS => by obtain ⟨s0, s1⟩ := hS; go_simp) hS ?_
  refine tkH (i := 6) (v := (.pointer (some ⟨p, 1, none⟩))) rfl (fun w hS => by obtain ⟨s0, s1⟩ := hS; go_simp) hS ?_
  refine tkH (i := 7) (v := (.slice oc B.os.length ocap)) rfl (fun w hS => by obtain ⟨s0, s1⟩ := hS; go_simp) hS ?_
  refine tkH (i := 8) (v := (.int .i64 (B.os.length : Int))) rfl (fun w hS => by obtain ⟨s0, s1⟩ := hS; go_simp) hS ?_
  refine wpAnyH_ready (rs := [9]) (by kernel_rfl) (by simp) ?_
  refine AllReadyH.cons rfl (fun K hK => ?_) AllReadyH.nil
  go_simp
  refine hK.out _ _ ⟨(Blk.alloc (Blk.drew HBk.out) _).cell rfl, (Blk.alloc (Blk.drew HBk.out) _).cell rfl⟩ (fun hS => ?_)
  clear hK
  refine tkH (i := 10) (v := (.slice (some ⟨w1.heap.size, 0, none⟩) 2 2)) rfl (fun w hS => by obtain ⟨s0, s1⟩ := hS; go_simp) hS ?_
  refine wpAnyH_done (by kernel_rfl) ?_ _
  obtain ⟨W2, hW2, X2, B2⟩ : ∃ W2, (w1.alloc (.cells #[.int .i64 B.nx, .int .i64 (B.os.length : Int)] 3)).drew = W2 ∧ Blk W2 w1.heap.size #[.int .i64 B.nx, .int .i64 (B.os.length : Int)] 3 ∧ Below w1.heap.size w1 W2 := ⟨_, rfl, (blk_new _ _ _ _ rfl).drew, ((Below.refl _ _).alloc (Nat.le_refl _) _).drew⟩
  have ho2 : W2.ownsRow w1.heap.size 3 1 (.slice (some ⟨w1.heap.size, 0, none⟩) 2 2) (2 + 6 * 0) (iLb (bnK B 0)) := ⟨rfl, Or.inr ⟨w1.heap.size, 2, _, rfl, Nat.le_refl _, X2, by omega, by unfold maxLen; omega, rfl, rfl⟩⟩
  have g1 : W2.cell? ⟨p, 1, none⟩ = some (.slice oc B.os.length ocap) := (Blk.below HBk.out B2).cell rfl
  clear hS c0 c1 X2
  try rw [hW2]
  go_wp2
  go_loopw [3, 29] (fun o i wr => ∃ k : Nat, k ≤ B.os.length ∧ i = .int .i64 k ∧ wr.ownsRow w1.heap.size 3 1 o (2 + 6 * k) (iLb (bnK B k)) ∧ Below w1.heap.size w1 wr) (fun _ i _ => B.os.length - (intOf i).toNat)
  case atStart => exact ⟨0, Nat.zero_le _, rfl, ho2, B2⟩
  case round =>
    clear ho2 B2 g1
    obtain ⟨k, hk, rfl, ho, br⟩ := hrel
    have zr := br.size
    by_cases hlt : k < B.os.length
    · have hd : decide ((k : Int) < B.os.length) = true := by simp only [decide_eq_true_eq]; omega
      have hkl : (k : Int) < (B.os.length : Int) := by omega
      obtain ⟨x, hx⟩ : ∃ x, B.os[k]? = some x := ⟨B.os[k], by simp [hlt]⟩
      obtain ⟨r, rfl, hcx⟩ : ∃ r, oc = some ⟨r, 0, none⟩ ∧ ∀ (j : Nat) (u : Value), (oC x)[j]? = some u → wr.cell? ⟨r, k * 6 + j, none⟩ = some u := by
        have hrow := HB.out.row
        rcases hrow.2 with ⟨h1, h2⟩ | ⟨g, cap, cur, h1, _⟩
        · exfalso; omega
        · injection h1 with h1 _ _
          refine ⟨g, h1, fun j u hu => ?_⟩
          have q := World.ownsRow.cells (w := w1) hrow (g := g) (by rw [h1]; rfl) (k * 6 + j) u (odL_get _ k j x u hx hu)
          rw [Addr.add_lit, Nat.zero_add] at q
          exact keepY br q
      have n0 : wr.cell? ⟨r, k * 6, none⟩ = some (.int .i64 x.id) := hcx 0 _ rfl
      have n1 : wr.cell? ⟨r, k * 6 + 1, none⟩ = some (.int .i64 x.own) := hcx 1 _ rfl
      have n2 : wr.cell? ⟨r, k * 6 + 2, none⟩ = some (.int .i64 x.pr) := hcx 2 _ rfl
      have n3 : wr.cell? ⟨r, k * 6 + 3, none⟩ = some (.int .i64 x.am) := hcx 3 _ rfl
      have n4 : wr.cell? ⟨r, k * 6 + 4, none⟩ = some (.int .i64 x.pl) := hcx 4 _ rfl
      have n5 : wr.cell? ⟨r, k * 6 + 5, none⟩ = some (.bool x.by) := hcx 5 _ rfl
      have HT : Hid (iLb (bnK B (k + 1)) = iLb (bnK B k) ++ [.int .i64 x.id, .int .i64 x.own, .int .i64 (sdN x), .int .i64 x.pr, .int .i64 x.am, .int .i64 x.pl]) := by
        show _ = _
        rw [bnK_succ hx]
        simp [iLb, odN]
      obtain ⟨W3, hW3, X3, B3, o3⟩ : ∃ W3, (wr.alloc (.cells #[.int .i64 x.id, .int .i64 x.own, .int .i64 x.pr, .int .i64 x.am, .int .i64 x.pl, .bool x.by] 92)) = W3 ∧ Blk W3 wr.heap.size #[.int .i64 x.id, .int .i64 x.own, .int .i64 x.pr, .int .i64 x.am, .int .i64 x.pl, .bool x.by] 92 ∧ Below w1.heap.size w1 W3 ∧ W3.ownsRow w1.heap.size 3 1 u3 (2 + 6 * k) (iLb (bnK B k)) := ⟨_, rfl, blk_new _ _ _ _ rfl, br.alloc zr _, ho.alloc _⟩
      have zW3 : W3.heap.size = wr.heap.size + 1 := by rw [← hW3]; simp
      obtain ⟨lc, lcap, rfl⟩ := own_form o3
      have hrowlt : ∀ q, (Value.slice lc (2 + 6 * k) lcap).ownBlock = some q → w1.heap.size ≤ q ∧ q < wr.heap.size := fun q hq => ho.lt q hq
      have e0 : W3.cell? ⟨wr.heap.size, 0, none⟩ = some (.int .i64 x.id) := X3.cell rfl
      have e1 : W3.cell? ⟨wr.heap.size, 1, none⟩ = some (.int .i64 x.own) := X3.cell rfl
      have e2 : W3.cell? ⟨wr.heap.size, 2, none⟩ = some (.int .i64 x.pr) := X3.cell rfl
      have e3 : W3.cell? ⟨wr.heap.size, 3, none⟩ = some (.int .i64 x.am) := X3.cell rfl
      have e4 : W3.cell? ⟨wr.heap.size, 4, none⟩ = some (.int .i64 x.pl) := X3.cell rfl
      have e5 : W3.cell? ⟨wr.heap.size, 5, none⟩ = some (.bool x.by) := X3.cell rfl
      have HX3 : Hid _ := X3
      have HO3 : Hid _ := o3
      have HLT : Hid _ := hrowlt
      have HSD : Hid _ := sideOf_calls x
      have z3 := B3.size
      clear hx hcx o3 ho X3 hrowlt
      go_wp2_with fail
      refine wp_region_held_drew (S := (fun wx => wx.cell? ⟨wr.heap.size, 0, none⟩ = some (.int .i64 x.id) ∧ wx.cell? ⟨wr.heap.size, 1, none⟩ = some (.int .i64 x.own) ∧ wx.cell? ⟨wr.heap.size, 2, none⟩ = some (.int .i64 x.pr) ∧ wx.cell? ⟨wr.heap.size, 3, none⟩ = some (.int .i64 x.am) ∧ wx.cell? ⟨wr.heap.size, 4, none⟩ = some (.int .i64 x.pl) ∧ wx.cell? ⟨wr.heap.size, 5, none⟩ = some (.bool x.by))) (by kernel_rfl) ⟨e0, e1, e2, e3, e4, e5⟩ (fun hS => ?_)
      refine tkH (i := 0) (v := (.slice lc (2 + 6 * k) lcap)) rfl (fun w hS => by obtain ⟨s0, s1, s2, s3, s4, s5⟩ := hS; go_simp) hS ?_
      refine tkH (i := 1) (v := (.pointer (some ⟨wr.heap.size, 0, none⟩))) rfl (fun w hS => by obtain ⟨s0, s1, s2, s3, s4, s5⟩ := hS; go_simp) hS ?_
      refine tkH (i := 2) (v := (.int .i64 x.id)) rfl (fun w hS => by obtain ⟨s0, s1, s2, s3, s4, s5⟩ := hS; go_simp) hS ?_
      refine tkH (i := 3) (v := (.pointer (some ⟨wr.heap.size, 1, none⟩))) rfl (fun w hS => by obtain ⟨s0, s1, s2, s3, s4, s5⟩ := hS; go_simp) hS ?_
      refine tkH (i := 4) (v := (.int .i64 x.own)) rfl (fun w hS => by obtain ⟨s0, s1, s2, s3, s4, s5⟩ := hS; go_simp) hS ?_
      refine tkH (i := 5) (v := (.agg #[.int .i64 x.id, .int .i64 x.own, .int .i64 x.pr, .int .i64 x.am, .int .i64 x.pl, .bool x.by])) rfl (fun w hS => by obtain ⟨s0, s1, s2, s3, s4, s5⟩ := hS; go_simp) hS ?_
      refine tkH (i := 7) (v := (.pointer (some ⟨wr.heap.size, 2, none⟩))) rfl (fun w hS => by obtain ⟨s0, s1, s2, s3, s4, s5⟩ := hS; go_simp) hS ?_
      refine tkH (i := 8) (v := (.int .i64 x.pr)) rfl (fun w hS => by obtain ⟨s0, s1, s2, s3, s4, s5⟩ := hS; go_simp) hS ?_
      refine tkH (i := 9) (v := (.pointer (some ⟨wr.heap.size, 3, none⟩))) rfl (fun w hS => by obtain ⟨s0, s1, s2, s3, s4, s5⟩ := hS; go_simp) hS ?_
      refine tkH (i := 10) (v := (.int .i64 x.am)) rfl (fun w hS => by obtain ⟨s0, s1, s2, s3, s4, s5⟩ := hS; go_simp) hS ?_
      refine tkH (i := 11) (v := (.pointer (some ⟨wr.heap.size, 4, none⟩))) rfl (fun w hS => by obtain ⟨s0, s1, s2, s3, s4, s5⟩ := hS; go_simp) hS ?_
      refine tkH (i := 12) (v := (.int .i64 x.pl)) rfl (fun w hS => by obtain ⟨s0, s1, s2, s3, s4, s5⟩ := hS; go_simp) hS ?_
      refine wpAnyH_ready (rs := [6]) (by kernel_rfl) (by simp) ?_
      refine AllReadyH.cons rfl (fun K hK => ?_) AllReadyH.nil
      go_simp
      refine (HSD.out _).mono ?_
      rintro e w5 ⟨rfl, b5⟩
      have b35 : Below W3.heap.size W3 w5 := (Below.refl _ _).drew.trans b5
      have X5 := Blk.below HX3.out b35
      have o5 := ownB HO3.out b35
      have B5 := B3.trans (b35.mono z3)
      have z5 := b35.size
      refine hK.out _ _ ⟨X5.cell rfl, X5.cell rfl, X5.cell rfl, X5.cell rfl, X5.cell rfl, X5.cell rfl⟩ (fun hS => ?_)
      clear hK
      refine wpAnyH_ready (rs := [13]) (by kernel_rfl) (by simp) ?_
      refine AllReadyH.cons rfl (fun K hK => ?_) AllReadyH.nil
      go_simp
      refine hK.out _ _ ⟨(X5.alloc _).cell rfl, (X5.alloc _).cell rfl, (X5.alloc _).cell rfl, (X5.alloc _).cell rfl, (X5.alloc _).cell rfl, (X5.alloc _).cell rfl⟩ (fun hS => ?_)
      clear hK
      refine wpAnyH_ready (rs := [14]) (by kernel_rfl) (by simp) ?_
      refine AllReadyH.cons rfl (fun K hK => ?_) AllReadyH.nil
      refine step_ifB rfl ?_
      refine wp_append_own _ (.tmp 33) (.tmp 46) 90 (by kernel_rfl) w1.heap.size 3 i0 (.int .i64 0) 1 8 Tryz.underlying90 hi hz0 hz1 hz2 rfl (by decide) (.slice lc (2 + 6 * k) lcap) (2 + 6 * k) (iLb (bnK B k)) (by kernel_rfl) (o5.alloc _) ⟨w5.heap.size, 0, none⟩ 6 6 [.int .i64 x.id, .int .i64 x.own, .int .i64 (sdN x), .int .i64 x.pr, .int .i64 x.am, .int .i64 x.pl] (by kernel_rfl) rfl ?_ ?_ ?_ ?_ ?_ ?_
      · intro j u hj
        rw [Addr.add_lit, Nat.zero_add]
        exact (blk_new w5 w5.heap.size _ _ rfl).cell (by simpa using hj)
      · intro u hu
        simp at hu
        rcases hu with rfl | rfl | rfl | rfl | rfl | rfl <;> rfl
      · unfold maxLen; omega
      · omega
      · simp; omega
      intro v' w6 ho' hg' _
      have X6 : Blk w6 wr.heap.size #[.int .i64 x.id, .int .i64 x.own, .int .i64 x.pr, .int .i64 x.am, .int .i64 x.pl, .bool x.by] 92 := (hg'.block wr.heap.size (by simp; omega) (fun e => by have := (HLT.out _ e.symm).2; omega)).trans (X5.alloc _)
      refine hK.out _ _ ⟨X6.cell rfl, X6.cell rfl, X6.cell rfl, X6.cell rfl, X6.cell rfl, X6.cell rfl⟩ (fun hS => ?_)
      clear hK
      refine tkG (i := 15) (v := v') rfl hS ?_
      refine wpAnyH_done (by kernel_rfl) ?_ _
      go_wp2
      refine ⟨⟨k + 1, by omega, by norm_cast, ?_, ?_⟩, by simp [intOf]; omega⟩
      · rw [HT.out]; exact ho'
      · exact belG (B5.alloc (by omega) _) hg' (fun q hq => (HLT.out q hq).1) (by simp; omega)
    · have hd : decide ((k : Int) < B.os.length) = false := by simp only [decide_eq_false_iff_not]; omega
      have hkk : k = B.os.length := by omega
      subst hkk
      have HL : Hid ((bN B).length = 2 + 6 * B.os.length) := bnK_len (Nat.le_refl _)
      obtain ⟨g, cap3, rfl, HC⟩ : ∃ g cap3, u3 = .slice (some ⟨g, 0, none⟩) (2 + 6 * B.os.length) cap3 ∧ Hid (∀ i (hi : i < (bN B).length), wr.cell? ⟨g, i, none⟩ = some (.int .i64 (bN B)[i])) := by
        rcases ho.2 with ⟨h1, h2⟩ | ⟨g, cap, cur, h1, _⟩
        · exfalso; omega
        · refine ⟨g, cap, h1, fun i hi => ?_⟩
          have q := World.ownsRow.cells ho (g := g) (by rw [h1]; rfl) i (.int .i64 (bN B)[i]) (by simp [iLb, bN] at hi ⊢ <;> exact hi)
          rw [Addr.add_lit, Nat.zero_add] at q
          exact q
      have hfit : ∀ i (hi : i < (bN B).length), 0 ≤ (bN B)[i] ∧ (bN B)[i] ≤ 9007199254740992 := fun i hi => HFit.out _ (List.getElem_mem hi)
      have HF : Hid _ := hfit
      have HTK : Hid (∀ k (hk : k < (bN B).length), encs ((bN B).take (k + 1)) = encs ((bN B).take k) ++ enc (bN B)[k].toNat) := fun k hk => encs_take _ k hk
      have HEL : Hid (∀ k, (encs ((bN B).take k)).length ≤ 10 * k) := fun k => by
        have := encs_len ((bN B).take k)
        rw [List.length_take] at this
        omega
      have HEN : Hid (encs ((bN B).take (2 + 6 * B.os.length)) = encs (bN B)) := by
        show _ = _
        rw [← HL.out, List.take_length]
      clear ho HFit hfit hlt hd
      have HAB : Hid (boB B = ⟨(encs (bN B)).toArray⟩) := rfl
      obtain ⟨wq, rfl⟩ : ∃ wq, wq = wr := ⟨wr, rfl⟩
      obtain ⟨W5, hW5, Bd5, B5, Z5⟩ : ∃ W5, wq.alloc (.cells #[.pointer none, .slice none 0 0] 97) = W5 ∧ Bdr wq.heap.size wq.heap.size [] W5 ∧ Below wq.heap.size wq W5 ∧ W5.heap.size = wq.heap.size + 1 := ⟨_, rfl, Lib.fresh_isBuilder 97 5 wq, by go_grown, by simp⟩
      obtain ⟨m, hN⟩ : ∃ m, bN B = m := ⟨_, rfl⟩
      rw [hN] at HL HC HF HTK HEL HEN HAB
      have HZ5 : Hid _ := Z5
      have hl6 : 2 + 6 * B.os.length ≤ 400 := by omega
      obtain ⟨L, hLL⟩ : ∃ L, 2 + 6 * B.os.length = L := ⟨_, rfl⟩
      rw [hLL] at HL HEN hl6
      simp only [hLL]
      clear hN Z5 hLL
      go_wp2
      go_loopw [51] (fun i wr => ∃ k : Nat, k ≤ L ∧ i = .int .i64 k ∧ Bdr wq.heap.size wq.heap.size (encs (m.take k)) wr ∧ Below wq.heap.size wq wr) (fun i _ => L - (intOf i).toNat)
      case atStart => exact ⟨0, Nat.zero_le _, rfl, Bd5, B5⟩
      case round =>
        obtain ⟨k, hk, rfl, hb, hbl⟩ := hrel
        by_cases hlt : k < L
        · have hd : decide ((k : Int) < L) = true := by simp only [decide_eq_true_eq]; omega
          have hkL : (k : Int) < (L : Int) := by omega
          have hkm : k < m.length := by rw [HL.out]; exact hlt
          have hx := keepY hbl (HC.out k hkm)
          have ht' := HTK.out k hkm
          obtain ⟨hm0, hm1⟩ := HF.out k hkm
          have hel := HEL.out k
          generalize m[k] = z at *
          obtain ⟨n, rfl⟩ := Int.eq_ofNat_of_zero_le hm0
          rw [Int.toNat_natCast] at ht'
          have HT : Hid _ := ht'
          clear ht'
          have HP : Hid _ := putInt_ok n wr (by omega)
          have hen := enc_le n
          have hls : (encs (m.take k)).length + (enc n).length ≤ 140737488355328 := by omega
          generalize encs (m.take k) = acc at *
          go_wp2_with fail
          refine Calls.mono HP.out ?_
          rintro e w6 ⟨rfl, b6⟩
          have hB6 := hb.below b6
          have z0 := hbl.size
          have z6 := b6.size
          have HW : Hid _ := writeString_calls wq.heap.size wq.heap.size acc ⟨(enc n).toArray⟩ w6 hB6 (by simpa [ByteArray.size] using hls) (by omega)
          go_wp2_with fail
          refine Calls.mono HW.out ?_
          rintro e w7 ⟨rfl, hB7, b7, k7⟩
          go_wp2
          refine ⟨⟨k + 1, by omega, by norm_cast, ?_, (hbl.trans (b6.mono (by omega))).trans b7⟩, ?_⟩
          · rw [HT.out]; exact hB7
          · simp [intOf]; omega
        · have hd : decide ((k : Int) < L) = false := by simp only [decide_eq_false_iff_not]; omega
          have hkL : ¬ (k : Int) < (L : Int) := by omega
          have hkk : k = L := by omega
          subst hkk
          rw [HEN.out] at hb
          have HS : Hid _ := bString_calls wq.heap.size wq.heap.size (encs m) wr hb hbl.size
          go_wp2_with fail
          refine Calls.mono HS.out ?_
          rintro e w8 ⟨rfl, b8⟩
          go_wp2
          go_ret
          exact ⟨by rw [HAB.out]; rfl, br.trans ((hbl.trans b8).mono zr)⟩
end Go.Proofs.YtladgfngddgnlaaGreatDoor.Cal
