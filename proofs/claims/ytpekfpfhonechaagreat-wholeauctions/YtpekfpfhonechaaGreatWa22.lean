/- An order laid behind all others; Put. -/
import Derived.Test.YtpekfpfhonechaaGreatWa21
namespace Go.Proofs.YtpekfpfhonechaaGreat.Cal
open Go.Shelf Go.RowKit Go.Lib Go.Sort
set_option linter.unusedSimpArgs false
set_option linter.unusedVariables false
variable {base p : Nat} {v : Value} {B : Bo}

/-- The step at an append whose run is known. -/
theorem wp_append_run {P : Program} {w : World} {o : Oper} {a : Act} {K : Act → World → Prop} {Q : Exit → Act → World → Prop} (s x : Operand) (t : TypeId)
    (ho : o.op = .call { callee := .builtin .append, args := #[s, x], argTypes := #[t, t] }) (v u : Value) (hs : a.eval s = v) (hx : a.eval x = u) {v' : Value} {w' : World}
    (hr : (Builtin.append_ #[t, t] o.type #[v, u]).run P w = .ok v' w') (h : K (a.put o.dst v') w') : o.wp P a w K Q := by
  unfold Oper.wp execOp
  simp only [ho, resolve, invoke, builtin, Sem.run_bind, Sem.run_pure, Result.andThen_ok, List.map_toArray, List.map_cons, List.map_nil, hs, hx, hr]
  exact h
/-- An order at a place. -/
def Od.at_ (o : Od) (n : Int) : Od := (o.1, o.2.1, o.2.2.1, o.2.2.2.1, n, o.2.2.2.2.2)
def Bo.stand (B : Bo) (o : Od) : Bo := ⟨B.nx + 1, B.os ++ [o.at_ B.nx]⟩
theorem ofb_cell {p : Nat} {v : Value} {w0 w : World} (h : Ofb p v w0 w) {q : Addr} (hq : q.block = p ∨ v.ownBlock = some q.block ∨ w0.heap.size ≤ q.block) (u : Value) : Ofb p v w0 (w.setCell q u) :=
  ⟨h.os, h.tape, h.output, by rw [World.size_setCell]; exact h.size, fun k hk h1 h2 => (Below.heap_setCell _ _ _ _ (by
    intro e
    rcases hq with f | f | f
    · omega
    · rw [← e] at f; exact h2 f
    · omega)).trans (h.block k hk h1 h2)⟩

set_option maxHeartbeats 4000000 in
set_option maxRecDepth 100000 in
theorem stand_calls (o : Od) (w : World) (h : Bk w base p v B) (hB : base ≤ w.heap.size) (hI : BInv (B.stand o)) :
    Calls Tryz.prog 113 #[.pointer (some ⟨p, 0, none⟩), .agg (oC o).toArray] w fun e w' => e = .returned (.tuple #[]) ∧ ∃ v', Bst w w' base p v v' (B.stand o) := by
  obtain ⟨i0, hi, hz0, hz1, hz2⟩ := info_parts infoO
  have hnx := h.inv.nx1
  have hnx2 := h.inv.nx2
  have hpl := h.blk.lt
  obtain ⟨W1, hW1, X1, B1, Z1⟩ : ∃ W1, (w.alloc (.cells #[.int .i64 o.id, .int .i64 o.own, .int .i64 o.pr, .int .i64 o.am, .int .i64 o.pl, .bool o.by] 51)) = W1 ∧ Blk W1 w.heap.size #[.int .i64 o.id, .int .i64 o.own, .int .i64 o.pr, .int .i64 o.am, .int .i64 o.pl, .bool o.by] 51 ∧ Below w.heap.size w W1 ∧ W1.heap.size = w.heap.size + 1 :=
    ⟨_, rfl, blk_new _ _ _ _ rfl, by go_grown, by simp⟩
  have P1 := h.blk.below B1
  obtain ⟨W2, hW2, X2, P2, O2, Z2⟩ : ∃ W2, W1.setCell ⟨w.heap.size, 4, none⟩ (.int .i64 B.nx) = W2 ∧ Blk W2 w.heap.size #[.int .i64 o.id, .int .i64 o.own, .int .i64 o.pr, .int .i64 o.am, .int .i64 B.nx, .bool o.by] 51 ∧ Blk W2 p #[.int .i64 B.nx, v] 103 ∧ Ofb p v w W2 ∧ W2.heap.size = w.heap.size + 1 :=
    ⟨_, rfl, X1.set 4 _, P1.setOther (p := ⟨w.heap.size, 4, none⟩) (by show p ≠ w.heap.size; omega) _, ofb_cell (Ofb.of_below B1) (q := ⟨w.heap.size, 4, none⟩) (Or.inr (Or.inr (Nat.le_refl _))) _, by rw [World.size_setCell]; exact Z1⟩
  obtain ⟨W3, hW3, X3, P3, O3, Z3⟩ : ∃ W3, W2.setCell ⟨p, 0, none⟩ (.int .i64 (B.nx + 1)) = W3 ∧ Blk W3 w.heap.size #[.int .i64 o.id, .int .i64 o.own, .int .i64 o.pr, .int .i64 o.am, .int .i64 B.nx, .bool o.by] 51 ∧ Blk W3 p #[.int .i64 (B.nx + 1), v] 103 ∧ Ofb p v w W3 ∧ W3.heap.size = w.heap.size + 1 :=
    ⟨_, rfl, X2.setOther (p := ⟨p, 0, none⟩) (by show w.heap.size ≠ p; omega) _, P2.set 0 _, ofb_cell O2 (q := ⟨p, 0, none⟩) (Or.inl rfl) _, by rw [World.size_setCell]; exact Z2⟩
  have R3 : W3.ownsRow base 51 6 v B.os.length (odL B.os) :=
    h.row.kept (row := some p) ⟨O3.os, O3.tape, O3.output, O3.size, fun k hk hkp => by
      rw [← hW3, ← hW2]
      exact (Below.heap_setCell _ _ _ _ (by intro e; exact hkp (by rw [e]))).trans ((Below.heap_setCell _ _ _ _ (by intro e; have e' : k = w.heap.size := e; omega)).trans (B1.block k hk))⟩ (Or.inr h.ne)
  have HR3 : Hid _ := R3
  obtain ⟨oc, ocap, rfl⟩ := own_form h.row
  have c0 : W1.cell? ⟨p, 0, none⟩ = some (.int .i64 B.nx) := P1.cell rfl
  have c1 : W1.cell? ⟨w.heap.size, 4, none⟩ = some (.int .i64 o.pl) := X1.cell rfl
  have f1 : W1.frozen? ⟨w.heap.size, 4, none⟩ = false := X1.frozen
  have c2 : W2.cell? ⟨p, 0, none⟩ = some (.int .i64 B.nx) := P2.cell rfl
  have f2 : W2.frozen? ⟨p, 0, none⟩ = false := P2.frozen
  have HB0 : Hid (Bk w base p _ B) := h
  have HI : Hid _ := hI
  have HX3 : Hid _ := X3
  have HP3 : Hid _ := P3
  clear R3 h hI X1 X2 P1 P2 hpl
  obtain ⟨W4, hW4, X4, B4, Z4⟩ : ∃ W4, (W3.drew.alloc (.cells #[.int .i64 o.id, .int .i64 o.own, .int .i64 o.pr, .int .i64 o.am, .int .i64 B.nx, .bool o.by] 51)) = W4 ∧ Blk W4 (w.heap.size + 1) (oC (o.at_ B.nx)).toArray 51 ∧ Below W3.heap.size W3 W4 ∧ W4.heap.size = w.heap.size + 2 :=
    ⟨_, rfl, blk_new _ _ _ _ Z3.symm, (Below.refl _ _).drew.alloc (Nat.le_refl _) _, by simp [Z3]⟩
  have R4 := ownB HR3.out B4
  obtain ⟨g, cap', W5, hrun, own5, grow5, at5, lt5⟩ := run_append_lies (P := Tryz.prog) W4 48 48 base 51 i0 (.agg #[.int .i64 0, .int .i64 0, .int .i64 0, .int .i64 0, .int .i64 0, .bool false]) 6 48 Tryz.underlying48 hi hz0 hz1 hz2 rfl (by decide) (.slice oc B.os.length ocap) B.os.length (odL B.os) R4 ⟨w.heap.size + 1, 0, none⟩ 1 1 (oC (o.at_ B.nx)) rfl
    (by intro j u hj; rw [Addr.add_lit, Nat.zero_add]; exact X4.cell (by simpa using hj)) (oC_one _) (by decide) (by unfold maxLen; have := HB0.out.inv.len; omega) (by have := HB0.out.inv.len; omega) (by omega) (w.heap.size + 2) Z4
  have hgp : g ≠ p := by
    rcases at5 with e | e
    · intro f; rw [f] at e; exact HB0.out.ne e
    · have := HB0.out.blk.lt; omega
  have P5 : Blk W5 p #[.int .i64 (B.nx + 1), .slice oc B.os.length ocap] 103 :=
    (grow5.block p (by have := HB0.out.blk.lt; omega) (fun e => HB0.out.ne e.symm)).trans (Blk.below HP3.out B4)
  have z5 := grow5.size
  have O5 : Ofb p (.slice oc B.os.length ocap) w W5 := by
    have O4 : Ofb p (.slice oc B.os.length ocap) w W4 := O3.trans (fun k hk => Or.inl hk) (Ofb.of_below B4)
    exact ⟨grow5.os.trans O4.os, grow5.tape.trans O4.tape, grow5.output.trans O4.output, by omega, fun k hk h1 h2 => (grow5.block k (by omega) (fun e => h2 e.symm)).trans (O4.block k hk h1 h2)⟩
  have HF : Hid (Bst w (W5.setCell ⟨p, 1, none⟩ (.slice (some ⟨g, 0, none⟩) (B.os.length + 1) cap')) base p (.slice oc B.os.length ocap) (.slice (some ⟨g, 0, none⟩) (B.os.length + 1) cap') (B.stand o)) := by
    refine ⟨⟨P5.set 1 _, ?_, HB0.out.le, by simpa [Value.ownBlock] using hgp, HI.out⟩, ofb_cell O5 (q := ⟨p, 1, none⟩) (Or.inl rfl) _, ?_⟩
    · have e1 : (B.stand o).os.length = B.os.length + 1 := by simp [Bo.stand]
      have e2 : odL (B.stand o).os = odL B.os ++ oC (o.at_ B.nx) := by simp [Bo.stand, odL]
      rw [e1, e2]
      exact own5.kept (row := some p) ⟨rfl, rfl, rfl, by rw [World.size_setCell]; exact Nat.le_refl _, fun k hk hkp => Below.heap_setCell _ _ _ _ (by intro e; exact hkp (by rw [e]))⟩ (Or.inr (by simpa [Value.ownBlock] using hgp))
    · intro k hk
      simp only [Value.ownBlock, Option.some.injEq] at hk
      rcases at5 with e | e
      · left; rw [← hk]; exact e
      · right; omega
  have k3 : W3.cell? ⟨p, 1, none⟩ = some (.slice oc B.os.length ocap) := Blk.cell (w := W3) HP3.out rfl
  have k4 : W4.cell? ⟨p, 1, none⟩ = some (.slice oc B.os.length ocap) := Blk.cell (w := W4) (Blk.below HP3.out B4) rfl
  have k5 : W5.cell? ⟨p, 1, none⟩ = some (.slice oc B.os.length ocap) := P5.cell rfl
  have f5 : W5.frozen? ⟨p, 1, none⟩ = false := P5.frozen
  have y0 : W3.cell? ⟨w.heap.size, 0, none⟩ = some (.int .i64 o.id) := Blk.cell (w := W3) HX3.out rfl
  have y1 : W3.cell? ⟨w.heap.size, 1, none⟩ = some (.int .i64 o.own) := Blk.cell (w := W3) HX3.out rfl
  have y2 : W3.cell? ⟨w.heap.size, 2, none⟩ = some (.int .i64 o.pr) := Blk.cell (w := W3) HX3.out rfl
  have y3 : W3.cell? ⟨w.heap.size, 3, none⟩ = some (.int .i64 o.am) := Blk.cell (w := W3) HX3.out rfl
  have y4 : W3.cell? ⟨w.heap.size, 4, none⟩ = some (.int .i64 B.nx) := Blk.cell (w := W3) HX3.out rfl
  have y5 : W3.cell? ⟨w.heap.size, 5, none⟩ = some (.bool o.by) := Blk.cell (w := W3) HX3.out rfl
  clear own5 grow5 at5 hgp P5 O5 X4 R4 O2 O3 hz0 hz1 hz2 hi X3 P3
  unfold oC
  go_enter Tryz.func113, Tryz.ntmps113
  go_wp2_with fail
  refine wp_region_any (by kernel_rfl) ?_
  change wpAny _ _ _ _ _ _ _ (World.drew _)
  refine wpAny_take (i := 0) (v := (.pointer (some ⟨p, 0, none⟩))) rfl (by kernel_rfl) (by kernel_rfl) (by kernel_rfl) (fun _ _ _ h => h) (Or.inl ⟨by rfl, fun w => by go_simp⟩) ?_
  refine wpAny_take (i := 1) (v := (.pointer (some ⟨p, 0, none⟩))) rfl (by kernel_rfl) (by kernel_rfl) (by kernel_rfl) (fun _ _ _ h => h) (Or.inl ⟨by rfl, fun w => by go_simp⟩) ?_
  refine wpAny_take (i := 2) (v := (.pointer (some ⟨p, 0, none⟩))) rfl (by kernel_rfl) (by kernel_rfl) (by kernel_rfl) (fun _ _ _ h => h) (Or.inl ⟨by rfl, fun w => by go_simp⟩) ?_
  refine wpAny_take (i := 3) (v := (.pointer (some ⟨p, 1, none⟩))) rfl (by kernel_rfl) (by kernel_rfl) (by kernel_rfl) (fun _ _ _ h => h) (Or.inl ⟨by rfl, fun w => by go_simp⟩) ?_
  refine wpAny_ready (rs := [4, 5]) (by kernel_rfl) (by simp) ?_
  refine AllReady.cons rfl (fun K hK => ?_) (AllReady.cons rfl (fun K hK => ?_) AllReady.nil)
  · go_simp
    refine hK _ _ ?_
    clear hK
    refine wpAny_ready (rs := [5]) (by kernel_rfl) (by simp) ?_
    refine AllReady.cons rfl (fun K hK => ?_) AllReady.nil
    go_simp
    refine hK _ _ ?_
    clear hK
    refine wpAny_ready (rs := [6]) (by kernel_rfl) (by simp) ?_
    refine AllReady.cons rfl (fun K hK => ?_) AllReady.nil
    go_simp
    refine hK _ _ ?_
    clear hK
    refine wpAny_ready (rs := [7]) (by kernel_rfl) (by simp) ?_
    refine AllReady.cons rfl (fun K hK => ?_) AllReady.nil
    refine wp_append_run (.tmp 20) (.tmp 22) 48 rfl _ _ rfl rfl hrun ?_
    refine hK _ _ ?_
    clear hK
    refine wpAny_ready (rs := [8]) (by kernel_rfl) (by simp) ?_
    refine AllReady.cons rfl (fun K hK => ?_) AllReady.nil
    go_simp
    refine hK _ _ ?_
    clear hK
    refine wpAny_ready (rs := [9]) (by kernel_rfl) (by simp) ?_
    refine AllReady.cons rfl (fun K hK => ?_) AllReady.nil
    go_simp
    refine hK _ _ ?_
    clear hK
    refine wpAny_ready (rs := [10]) (by kernel_rfl) (by simp) ?_
    refine AllReady.cons rfl (fun K hK => ?_) AllReady.nil
    go_simp
    refine hK _ _ ?_
    clear hK
    refine wpAny_done (by kernel_rfl) ?_ _
    go_wp2
    go_end0
    exact ⟨rfl, _, HF.out⟩
  · go_simp
    refine hK _ _ ?_
    clear hK
    refine wpAny_ready (rs := [4, 6]) (by kernel_rfl) (by simp) ?_
    refine AllReady.cons rfl (fun K hK => ?_) (AllReady.cons rfl (fun K hK => ?_) AllReady.nil)
    · go_simp
      refine hK _ _ ?_
      clear hK
      refine wpAny_ready (rs := [6]) (by kernel_rfl) (by simp) ?_
      refine AllReady.cons rfl (fun K hK => ?_) AllReady.nil
      go_simp
      refine hK _ _ ?_
      clear hK
      refine wpAny_ready (rs := [7]) (by kernel_rfl) (by simp) ?_
      refine AllReady.cons rfl (fun K hK => ?_) AllReady.nil
      refine wp_append_run (.tmp 20) (.tmp 22) 48 rfl _ _ rfl rfl hrun ?_
      refine hK _ _ ?_
      clear hK
      refine wpAny_ready (rs := [8]) (by kernel_rfl) (by simp) ?_
      refine AllReady.cons rfl (fun K hK => ?_) AllReady.nil
      go_simp
      refine hK _ _ ?_
      clear hK
      refine wpAny_ready (rs := [9]) (by kernel_rfl) (by simp) ?_
      refine AllReady.cons rfl (fun K hK => ?_) AllReady.nil
      go_simp
      refine hK _ _ ?_
      clear hK
      refine wpAny_ready (rs := [10]) (by kernel_rfl) (by simp) ?_
      refine AllReady.cons rfl (fun K hK => ?_) AllReady.nil
      go_simp
      refine hK _ _ ?_
      clear hK
      refine wpAny_done (by kernel_rfl) ?_ _
      go_wp2
      go_end0
      exact ⟨rfl, _, HF.out⟩
    · go_simp
      refine hK _ _ ?_
      clear hK
      refine wpAny_ready (rs := [4]) (by kernel_rfl) (by simp) ?_
      refine AllReady.cons rfl (fun K hK => ?_) AllReady.nil
      go_simp
      refine hK _ _ ?_
      clear hK
      refine wpAny_ready (rs := [7]) (by kernel_rfl) (by simp) ?_
      refine AllReady.cons rfl (fun K hK => ?_) AllReady.nil
      refine wp_append_run (.tmp 20) (.tmp 22) 48 rfl _ _ rfl rfl hrun ?_
      refine hK _ _ ?_
      clear hK
      refine wpAny_ready (rs := [8]) (by kernel_rfl) (by simp) ?_
      refine AllReady.cons rfl (fun K hK => ?_) AllReady.nil
      go_simp
      refine hK _ _ ?_
      clear hK
      refine wpAny_ready (rs := [9]) (by kernel_rfl) (by simp) ?_
      refine AllReady.cons rfl (fun K hK => ?_) AllReady.nil
      go_simp
      refine hK _ _ ?_
      clear hK
      refine wpAny_ready (rs := [10]) (by kernel_rfl) (by simp) ?_
      refine AllReady.cons rfl (fun K hK => ?_) AllReady.nil
      go_simp
      refine hK _ _ ?_
      clear hK
      refine wpAny_done (by kernel_rfl) ?_ _
      go_wp2
      go_end0
      exact ⟨rfl, _, HF.out⟩
end Go.Proofs.YtpekfpfhonechaaGreat.Cal

namespace Go.Proofs.YtpekfpfhonechaaGreat.Cal
open Go.Shelf Go.RowKit Go.Lib Go.Sort
set_option linter.unusedSimpArgs false
set_option linter.unusedVariables false
variable {base p : Nat} {v : Value} {B : Bo}

def Bo.put (B : Bo) (o : Od) : Int × Bo :=
  if mayB o = false ∨ o.pl ≠ 0 then (1, B) else if 0 ≤ fnd B.os o.id then (63, B) else if B.os.length = 64 ∨ B.nx = 9007199254740992 then (2, B) else (0, B.stand o)
theorem may_at (o : Od) (n : Int) : mayB (o.at_ n) = mayB o := rfl
theorem BInv.stand (h : BInv B) (o : Od) (hm : mayB o = true) (hid : ∀ x ∈ B.os, x.id ≠ o.id) (hl : B.os.length < 64) (hn : B.nx ≠ 9007199254740992) : BInv (B.stand o) := by
  have h1 := h.nx1
  have h2 := h.nx2
  refine ⟨by simp [Bo.stand]; omega, by simp [Bo.stand]; omega, by simp [Bo.stand]; omega, ?_, ?_, ?_, ?_⟩
  · intro x hx
    rcases List.mem_append.1 hx with e | e
    · exact h.may x e
    · rw [List.mem_singleton.1 e, may_at]; exact hm
  · refine List.pairwise_append.2 ⟨h.ids, List.pairwise_singleton _ _, fun a ha b hb => ?_⟩
    rw [List.mem_singleton.1 hb]; exact hid a ha
  · refine List.pairwise_append.2 ⟨h.pls, List.pairwise_singleton _ _, fun a ha b hb => ?_⟩
    rw [List.mem_singleton.1 hb]; exact (h.pl a ha).2
  · intro x hx
    show 1 ≤ x.pl ∧ x.pl < B.nx + 1
    rcases List.mem_append.1 hx with e | e
    · have := h.pl x e; omega
    · rw [List.mem_singleton.1 e]
      show 1 ≤ B.nx ∧ B.nx < B.nx + 1
      omega

set_option maxHeartbeats 4000000 in
set_option maxRecDepth 100000 in
theorem put_calls (o : Od) (w : World) (h : Bk w base p v B) (hB : base ≤ w.heap.size) (r : Int × Bo) (hr : B.put o = r) :
    Calls Tryz.prog 83 #[.pointer (some ⟨p, 0, none⟩), .agg (oC o).toArray] w fun e w' => e = .returned (.int .i64 r.1) ∧ ∃ v', Bst w w' base p v v' r.2 := by
  have hun := Tryz.underlying51
  have h6 := infoO6 o
  obtain ⟨W1, hW1, X1, B1, Z1⟩ : ∃ W1, (w.alloc (.cells #[.int .i64 o.id, .int .i64 o.own, .int .i64 o.pr, .int .i64 o.am, .int .i64 o.pl, .bool o.by] 51)) = W1 ∧ Blk W1 w.heap.size (oC o).toArray 51 ∧ Below w.heap.size w W1 ∧ W1.heap.size = w.heap.size + 1 :=
    ⟨_, rfl, blk_new _ _ _ _ rfl, by go_grown, by simp⟩
  have K1 := h.below B1
  have hm := made_calls W1 K1
  have hmay := mayBe_calls o W1
  have x4 : W1.cell? ⟨w.heap.size, 4, none⟩ = some (.int .i64 o.pl) := X1.cell rfl
  have xa : W1.cell? ⟨w.heap.size, 0, none⟩ = some (.int .i64 o.id) := X1.cell rfl
  have xb : W1.cell? ⟨w.heap.size, 1, none⟩ = some (.int .i64 o.own) := X1.cell rfl
  have xc : W1.cell? ⟨w.heap.size, 2, none⟩ = some (.int .i64 o.pr) := X1.cell rfl
  have xd : W1.cell? ⟨w.heap.size, 3, none⟩ = some (.int .i64 o.am) := X1.cell rfl
  have xe : W1.cell? ⟨w.heap.size, 5, none⟩ = some (.bool o.by) := X1.cell rfl
  have HH : Hid _ := h
  unfold Bo.put at hr
  cases hmb : mayB o
  · rw [if_pos (Or.inl hmb)] at hr
    subst hr
    rw [hmb] at hmay
    have HM : Hid _ := hmay
    clear hmay h
    unfold oC at X1 h6 ⊢
    go_enter Tryz.func83, Tryz.ntmps83
    go_wp2_with fail
    refine hm.mono ?_
    rintro e w1 ⟨rfl, rfl⟩
    go_wp2_with fail
    refine Calls.mono HM.out ?_
    rintro e w2 ⟨rfl, g2⟩
    go_wp2
    go_ret
    exact ⟨rfl, v, Bst.same HH.out (B1.trans (g2.below.mono (by omega)))⟩
  · rw [hmb] at hmay
    have HM : Hid _ := hmay
    by_cases hpl : o.pl = 0
    · rw [if_neg (by simp [hmb, hpl])] at hr
      have hq : (o.pl == 0) = true := by simpa using hpl
      have hmb1 := hmb
      have HMB : Hid _ := hmb
      rcases fnd_cases B.os o.id with ⟨f1, f2⟩ | ⟨i, q, f1, f2, f3, f4⟩
      · rw [if_neg (by rw [f1]; decide)] at hr
        by_cases hfull : B.os.length = 64 ∨ B.nx = 9007199254740992
        · rw [if_pos hfull] at hr
          subst hr
          have HF : Hid _ := fun (w2 : World) (b2 : Below W1.heap.size W1 w2) => find_calls o.id w2 (K1.below b2)
          rw [f1] at HF
          have HO : Hid _ := fun (w2 : World) (b2 : Below W1.heap.size W1 w2) => outOf_calls w2 (K1.below b2)
          have HL : Hid _ := fun (w2 : World) (b2 : Below W1.heap.size W1 w2) => K1.below b2
          obtain ⟨oc, ocap, rfl⟩ := own_form h.row
          have hlen := h.inv.len
          have X1' := X1
          have Z2 : w.heap.size < W1.heap.size := by omega
          clear hmay h f1 f2 K1 hpl hmb hmb1 Z1
          unfold oC at X1 h6 ⊢
          by_cases h64 : B.os.length = 64
          · have q64 : ((B.os.length : Int) == 64) = true := by simp; omega
            have HQ : Hid _ := h64
            clear hfull h64
            go_enter Tryz.func83, Tryz.ntmps83
            go_wp2_with fail
            refine hm.mono ?_
            rintro e w1 ⟨rfl, rfl⟩
            go_wp2_with fail
            refine Calls.mono HM.out ?_
            rintro e w2 ⟨rfl, g2⟩
            have x0 : w2.cell? ⟨w.heap.size, 0, none⟩ = some (.int .i64 o.id) := g2.cell (X1'.cell rfl)
            have x4' : w2.cell? ⟨w.heap.size, 4, none⟩ = some (.int .i64 o.pl) := g2.cell x4
            go_wp2_with fail
            refine Calls.mono (HF.out w2 g2.below) ?_
            rintro e w3 ⟨rfl, b3⟩
            have B3 := g2.below.trans (b3.mono g2.below.size)
            have c1 : w3.cell? ⟨p, 1, none⟩ = some (.slice oc B.os.length ocap) := (HL.out w3 B3).blk.cell rfl
            go_wp2
            go_ret
            exact ⟨rfl, _, Bst.same HH.out (B1.trans (B3.mono (by omega)))⟩
          · have q64 : ((B.os.length : Int) == 64) = false := by simp; omega
            have q65 : ¬ (B.os.length : Int) = 64 := by omega
            have hnx : B.nx = 9007199254740992 := hfull.resolve_left h64
            rw [show decide (B.nx = 9007199254740992) = true from decide_eq_true hnx] at HO
            clear hfull h64 hnx
            go_enter Tryz.func83, Tryz.ntmps83
            go_wp2_with fail
            refine hm.mono ?_
            rintro e w1 ⟨rfl, rfl⟩
            go_wp2_with fail
            refine Calls.mono HM.out ?_
            rintro e w2 ⟨rfl, g2⟩
            have x0 : w2.cell? ⟨w.heap.size, 0, none⟩ = some (.int .i64 o.id) := g2.cell (X1'.cell rfl)
            have x4' : w2.cell? ⟨w.heap.size, 4, none⟩ = some (.int .i64 o.pl) := g2.cell x4
            go_wp2_with fail
            refine Calls.mono (HF.out w2 g2.below) ?_
            rintro e w3 ⟨rfl, b3⟩
            have B3 := g2.below.trans (b3.mono g2.below.size)
            have c1 : w3.cell? ⟨p, 1, none⟩ = some (.slice oc B.os.length ocap) := (HL.out w3 B3).blk.cell rfl
            go_wp2_with fail
            refine Calls.mono (HO.out w3 B3) ?_
            rintro e w4 ⟨rfl, rfl⟩
            go_wp2
            go_ret
            exact ⟨rfl, _, Bst.same HH.out (B1.trans (B3.mono (by omega)))⟩
        · rw [if_neg hfull] at hr
          subst hr
          have h64 : ¬ B.os.length = 64 := fun e => hfull (Or.inl e)
          have hnx : ¬ B.nx = 9007199254740992 := fun e => hfull (Or.inr e)
          have HF : Hid _ := fun (w2 : World) (b2 : Below W1.heap.size W1 w2) => find_calls o.id w2 (K1.below b2)
          rw [f1] at HF
          have HO : Hid _ := fun (w2 : World) (b2 : Below W1.heap.size W1 w2) => outOf_calls w2 (K1.below b2)
          rw [show decide (B.nx = 9007199254740992) = false from decide_eq_false hnx] at HO
          have HL : Hid _ := fun (w2 : World) (b2 : Below W1.heap.size W1 w2) => K1.below b2
          have HI : Hid _ := h.inv.stand o hmb f2 (by have := h.inv.len; omega) hnx
          have HS : Hid _ := fun (w2 : World) (b2 : Below W1.heap.size W1 w2) => stand_calls o w2 (K1.below b2) (by have := b2.size; omega) HI.out
          obtain ⟨oc, ocap, rfl⟩ := own_form h.row
          have hlen := h.inv.len
          have X1' := X1
          have Z2 : w.heap.size < W1.heap.size := by omega
          have q64 : ((B.os.length : Int) == 64) = false := by simp; omega
          have q65 : ¬ (B.os.length : Int) = 64 := by omega
          clear hmay h f1 f2 K1 hpl hmb hmb1 hfull h64 hnx Z1
          unfold oC at X1 h6 ⊢
          go_enter Tryz.func83, Tryz.ntmps83
          go_wp2_with fail
          refine hm.mono ?_
          rintro e w1 ⟨rfl, rfl⟩
          go_wp2_with fail
          refine Calls.mono HM.out ?_
          rintro e w2 ⟨rfl, g2⟩
          have x0 : w2.cell? ⟨w.heap.size, 0, none⟩ = some (.int .i64 o.id) := g2.cell (X1'.cell rfl)
          have x4' : w2.cell? ⟨w.heap.size, 4, none⟩ = some (.int .i64 o.pl) := g2.cell x4
          go_wp2_with fail
          refine Calls.mono (HF.out w2 g2.below) ?_
          rintro e w3 ⟨rfl, b3⟩
          have B3 := g2.below.trans (b3.mono g2.below.size)
          have c1 : w3.cell? ⟨p, 1, none⟩ = some (.slice oc B.os.length ocap) := (HL.out w3 B3).blk.cell rfl
          have X3 := X1.below B3
          go_wp2_with fail
          refine Calls.mono (HO.out w3 B3) ?_
          rintro e w4 ⟨rfl, rfl⟩
          go_wp2_with ((with_reducible refine rd_row (ty := 51) X3 hun rfl h6 ?_ ?_); rfl)
          refine Calls.mono (HS.out w4 B3) ?_
          rintro e w5 ⟨rfl, v5, S5⟩
          go_wp2
          go_ret
          exact ⟨rfl, v5, Bst.first (B1.trans (B3.mono (by omega))) S5⟩
      · rw [if_pos (by rw [f1]; omega)] at hr
        subst hr
        have HF : Hid _ := fun (w2 : World) (b2 : Below W1.heap.size W1 w2) => find_calls o.id w2 (K1.below b2)
        rw [f1] at HF
        have X1' := X1
        have hi0 : (0 : Int) ≤ (i : Int) := by omega
        have Z2 : w.heap.size < W1.heap.size := by omega
        clear hmay h f1 f2 f3 K1 hpl hmb hmb1 Z1
        unfold oC at X1 h6 ⊢
        go_enter Tryz.func83, Tryz.ntmps83
        go_wp2_with fail
        refine hm.mono ?_
        rintro e w1 ⟨rfl, rfl⟩
        go_wp2_with fail
        refine Calls.mono HM.out ?_
        rintro e w2 ⟨rfl, g2⟩
        have x0 : w2.cell? ⟨w.heap.size, 0, none⟩ = some (.int .i64 o.id) := g2.cell (X1'.cell rfl)
        have x4' : w2.cell? ⟨w.heap.size, 4, none⟩ = some (.int .i64 o.pl) := g2.cell x4
        go_wp2_with fail
        refine Calls.mono (HF.out w2 g2.below) ?_
        rintro e w3 ⟨rfl, b3⟩
        have B3 := g2.below.trans (b3.mono g2.below.size)
        go_wp2
        go_ret
        exact ⟨rfl, _, Bst.same HH.out (B1.trans (B3.mono (by omega)))⟩
    · rw [if_pos (Or.inr hpl)] at hr
      subst hr
      have hq : (o.pl == 0) = false := by simpa using hpl
      have X1' := X1
      have Z2 : w.heap.size < W1.heap.size := by omega
      clear hmay h hmb Z1
      unfold oC at X1 h6 ⊢
      go_enter Tryz.func83, Tryz.ntmps83
      go_wp2_with fail
      refine hm.mono ?_
      rintro e w1 ⟨rfl, rfl⟩
      go_wp2_with fail
      refine Calls.mono HM.out ?_
      rintro e w2 ⟨rfl, g2⟩
      have x4' : w2.cell? ⟨w.heap.size, 4, none⟩ = some (.int .i64 o.pl) := g2.cell x4
      go_wp2
      go_ret
      exact ⟨rfl, _, Bst.same HH.out (B1.trans (g2.below.mono (by omega)))⟩
end Go.Proofs.YtpekfpfhonechaaGreat.Cal
