/- prove in a log; Propose. -/
import Derived.Test.YtjpmnmgnbpecjaaVlHa
import Derived.Test.YtjpmnmgnbpecjaaVlHb
namespace Go.Proofs.Ytjpmnmgnbpecjaa
open Go.Shelf Go.RowKit Go.Lib Go.Sort
open Go.ChangeMaps (setBlock)
set_option linter.unusedSimpArgs false
set_option linter.unusedVariables false
variable {w : World} {p : Nat} {mp : Nat → Option Nat} {L : Lv}

theorem set_sl (L : Lv) (k : Nat) (s : Slot) : (L.set k s).sl k = s := by simp [Lv.set]
theorem set_set (L : Lv) (k : Nat) (s s' : Slot) : (L.set k s).set k s' = L.set k s' := by
  unfold Lv.set
  simp only [Lv.mk.injEq, true_and, and_true]
  funext j
  by_cases e : j = k <;> simp [e]
theorem LInv.set (hi : LInv L) {k : Nat} {s : Slot} (hp : s.pr = (L.sl k).pr) (hc : s.co = (L.sl k).co) : LInv (L.set k s) :=
  ⟨hi.n, hi.lo, fun j hj => by rw [set_vts hp hc]; exact hi.vts j hj⟩
theorem prove_pr (s : Slot) (n : Nat) (vw : Int) : (s.prove n vw).pr = s.pr ∧ (s.prove n vw).co = s.co := by unfold Slot.prove; split <;> exact ⟨rfl, rfl⟩

theorem prove_calls (h : Lg w p mp L) (hi : LInv L) {k : Nat} (hk : k < 8) :
    Calls Try.prog 45 #[.pointer (some ⟨p, 0, none⟩), .pointer (some ⟨p, 3 + k * 13, none⟩)] w fun e w' => e = .returned (.tuple #[]) ∧ (Lg w' p mp (L.set k ((L.sl k).prove L.n L.vw)) ∧ Stp p mp w mp w') := by
  obtain ⟨lv, hr, hsg⟩ := h.slot k hk
  have hpl := h.lt
  have c6 : w.cell? ⟨p, 3 + k * 13 + 6, none⟩ = some (.int .i64 (L.sl k).fv) := hr 6 _ rfl
  have c7 : w.cell? ⟨p, 3 + k * 13 + 7, none⟩ = some (.int .i64 (L.sl k).fs) := hr 7 _ rfl
  have hsame : (L.sl k).prove L.n L.vw = L.sl k → ∀ wx, Below w.heap.size w wx → (Lg wx p mp (L.set k ((L.sl k).prove L.n L.vw)) ∧ Stp p mp w mp wx) := fun e wx hb => by
    rw [e, Lv.set_self]
    exact ⟨h.below hb, Stp.of_below hb⟩
  by_cases hA : 0 < (L.sl k).fs ∧ (L.sl k).fv = L.vw
  · have e : (L.sl k).prove L.n L.vw = L.sl k := by unfold Slot.prove; rw [if_pos (Or.inl hA)]
    exact proveA (R := fun w' => Lg w' p mp (L.set k ((L.sl k).prove L.n L.vw)) ∧ Stp p mp w mp w') h.c1 c6 c7 hA.1 hA.2 (hsame e)
  · have HP : ∀ wx, Below w.heap.size w wx → _ := fun wx (hb : Below w.heap.size w wx) => prepared_calls (w := wx) (p := p) (o := 3 + k * 13) (s := L.sl k) (a := mp (2 * k)) (b := mp (2 * k + 1)) (lv := lv) hi.n (h.below hb).c0 (rangeAt_block hr (hb.block p hpl)) ((h.below hb).mpr hk) (hi.pr hk)
    cases hpp : (L.sl k).prep L.n with
    | false =>
      rw [hpp] at HP
      have e : (L.sl k).prove L.n L.vw = L.sl k := by unfold Slot.prove; rw [if_pos (Or.inr hpp)]
      by_cases h1 : 0 < (L.sl k).fs
      · exact proveB2 (R := fun w' => Lg w' p mp (L.set k ((L.sl k).prove L.n L.vw)) ∧ Stp p mp w mp w') h.c1 c6 c7 h1 (fun e => hA ⟨h1, e⟩) HP (hsame e)
      · exact proveB1 (R := fun w' => Lg w' p mp (L.set k ((L.sl k).prove L.n L.vw)) ∧ Stp p mp w mp w') h.c1 c6 c7 h1 HP (hsame e)
    | true =>
      rw [hpp] at HP
      have e : (L.sl k).prove L.n L.vw = { L.sl k with fk := 11, fv := L.vw, fs := (L.sl k).ps, fd := (L.sl k).pd, ft := (L.sl k).ba, fl := (alk L.n (L.sl k).pr ((L.sl k).ps, (L.sl k).pd)).take (quo L.n) } := by
        unfold Slot.prove; rw [if_neg (by rw [hpp]; simpa using hA)]
      have hq : qrm L.n (L.sl k).pr ((L.sl k).ps, (L.sl k).pd) = some ((alk L.n (L.sl k).pr ((L.sl k).ps, (L.sl k).pd)).take (quo L.n)) := by
        unfold Slot.prep qrm at hpp
        unfold qrm
        by_cases hlt : (alk L.n (L.sl k).pr ((L.sl k).ps, (L.sl k).pd)).length < quo L.n
        · rw [if_pos hlt] at hpp; simp at hpp
        · rw [if_neg hlt]
      have HQ : ∀ wx, Below w.heap.size w wx → _ := fun wx (hb : Below w.heap.size w wx) => quorum_calls L.n p (mp (2 * k)) (L.sl k).pr (L.sl k).ps (L.sl k).pd wx hi.n ((h.below hb).mpr hk) (hi.pr hk) (h.below hb).c0
      rw [hq] at HQ
      have HS : ∀ wx, Below w.heap.size w wx → wx.cell? ⟨p, 1, none⟩ = some (.int .i64 L.vw) ∧ wx.cell? ⟨p, 3 + k * 13, none⟩ = some (.int .i64 (L.sl k).ps) ∧ wx.cell? ⟨p, 3 + k * 13 + 1, none⟩ = some (.string (L.sl k).pd) ∧ wx.cell? ⟨p, 3 + k * 13 + 2, none⟩ = some (.string (L.sl k).ba) ∧ wx.cell? ⟨p, 3 + k * 13 + 3, none⟩ = some (.map (mp (2 * k))) := fun wx hb => by
        have hr' := rangeAt_block hr (hb.block p hpl)
        exact ⟨(h.below hb).c1, hr' 0 _ rfl, hr' 1 _ rfl, hr' 2 _ rfl, hr' 3 _ rfl⟩
      have HT : ∀ wx, Below w.heap.size w wx → wx.there p (3 + k * 13 + 5) 8 := fun wx hb => (h.below hb).there (by omega)
      have HF : ∀ wx lv', Below w.heap.size w wx → Sgr wx 0 lv' ((alk L.n (L.sl k).pr ((L.sl k).ps, (L.sl k).pd)).take (quo L.n)) → (fun w' => Lg w' p mp (L.set k ((L.sl k).prove L.n L.vw)) ∧ Stp p mp w mp w') (wx.setCells p (3 + k * 13 + 5) [.int .i64 11, .int .i64 L.vw, .int .i64 (L.sl k).ps, .int .i64 0, .int .i64 0, .string (L.sl k).pd, .string (L.sl k).ba, lv']) := fun wx lv' hb hl => by
        have hr' := rangeAt_block hr (hb.block p hpl)
        refine ⟨?_, (Stp.of_below hb).trans (stp_setCells p mp wx _ _)⟩
        rw [e]
        exact (h.below hb).store (i := 5) hk (by simp) hr' rfl hl rfl rfl
      by_cases h1 : 0 < (L.sl k).fs
      · exact proveC2 h.c1 c6 c7 h1 (fun e => hA ⟨h1, e⟩) HP HS HQ HT HF
      · exact proveC1 h.c1 c6 c7 h1 HP HS HQ HT HF

/-- The walk's step at a store of some cells inside a block. -/
theorem st_mid {P : Program} {ops : Array Oper} {rest : List Oper} {dst : Option Tmp} {type : TypeId} {pos : String} {after : Array Edge} {a : Act} {w : World} {Q : Exit → Act → World → Prop} {ty : TypeId} {x y : Operand}
    {b o : Nat} {cells : Array Value} (ht : w.there b o cells.size) (hi : (P.info? ty).map (·.size) = some cells.size) (h1 : cells.all (·.oneCell') = true) {W : World} (hW : w.setCells b o cells.toList = W)
    (hx : a.eval x = .pointer (some ⟨b, o, none⟩)) (hy : a.eval y = .agg cells) (h : wpList P ops Q rest (a.put dst undef) W) :
    wpList P ops Q ({ dst := dst, op := .store ty x y, type := type, pos := pos, after := after, guard := none } :: rest) a w := by
  subst hW
  exact wpList_store_mid (op := { dst := dst, op := .store ty x y, type := type, pos := pos, after := after, guard := none }) rfl ty x y rfl b o cells hx hy ht hi h1 h

/-- What a call on a log answers and leaves. -/
def Done (w : World) (p : Nat) (mp : Nat → Option Nat) (r : Lv × Int) (e : Ending) (w' : World) : Prop := e = .returned (.int .i64 r.2) ∧ ∃ mp', Lg w' p mp' r.1 ∧ Stp p mp w mp' w'
theorem bne_text {a b : ByteArray} (h : ¬ a = b) : (a.toList == b.toList) = false ∧ (a == b) = false ∧ ¬ a.toList = b.toList := by
  have h1 : (a.toList == b.toList) = false := by rw [strEq]; simp [h]
  exact ⟨h1, by rw [beq_toListBytes]; exact h1, fun e => by rw [e] at h1; simp at h1⟩

set_option maxHeartbeats 16000000 in
set_option maxRecDepth 100000 in
theorem propose_calls (h : Lg w p mp L) (hi : LInv L) (vw q : Int) (d b : ByteArray) (hz1 : d.size ≤ 281474976710656) (hz2 : b.size ≤ 281474976710656) :
    Calls Try.prog 28 #[.pointer (some ⟨p, 0, none⟩), .int .i64 vw, .int .i64 q, .string d, .string b] w (Done w p mp (L.propose vw q d b)) := by
  have hm := made_calls h hi
  have ho := open_calls h hi vw q
  have hself : Lg w p mp L ∧ Stp p mp w mp w := ⟨h, Stp.of_below (Below.refl _ _)⟩
  by_cases h0 : d = ⟨#[]⟩
  · have hR : L.propose vw q d b = (L, 1) := by unfold Lv.propose; rw [if_pos h0]
    rw [hR]
    subst h0
    have HS : Hid _ := hself
    clear hself h hi ho
    go_enter Try.func28, Try.ntmps28
    go_wp2_with fail
    refine hm.mono ?_
    rintro e w1 ⟨rfl, rfl⟩
    go_wp2
    go_ret
    exact ⟨rfl, mp, HS.out⟩
  obtain ⟨e1, e2, e3⟩ := bne_text h0
  have e4 := toList_ne h0
  have e5 : d.toList.isEmpty = false := by simp [e4]
  unfold opP at ho
  by_cases h1 : L.wi q = true ∧ vw = L.vw
  · rw [if_pos h1] at ho
    have hk := pla_lt q
    obtain ⟨lv, hr, hsg⟩ := h.slot (pla q) hk
    have HR : Hid (L.propose vw q d b = if (L.sl (pla q)).pd = d ∧ (L.sl (pla q)).ba = b then (L, 101) else if (L.sl (pla q)).pd ≠ ⟨#[]⟩ then (L, 102) else (L.set (pla q) ({ L.sl (pla q) with ps := q, pd := d, ba := b }.prove L.n L.vw), 0)) := by
      show _ = _
      unfold Lv.propose
      rw [if_neg h0, if_neg (by rintro (h | h); · rw [h1.1] at h; cases h
                                · exact h h1.2)]
    have HP1 : Hid _ := proposed_calls hr
    have c1 : w.cell? ⟨p, 3 + pla q * 13 + 1, none⟩ = some (.string (L.sl (pla q)).pd) := hr 1 _ rfl
    have c2 : w.cell? ⟨p, 3 + pla q * 13 + 2, none⟩ = some (.string (L.sl (pla q)).ba) := hr 2 _ rfl
    have Hr : Hid _ := hr
    have HL : Hid _ := h
    have HI : Hid _ := hi
    have HS : Hid _ := hself
    have H1 : Hid _ := h1
    have Hk : Hid _ := hk
    have HSG : Hid _ := hsg
    clear hr h hi hself h1 hk hsg
    generalize pla q = k at *
    obtain ⟨o, Ho⟩ : ∃ o, Hid (3 + k * 13 = o) := ⟨_, rfl⟩
    rw [Ho.out] at ho HP1 c1 c2 Hr
    by_cases g1 : (L.sl k).pd = d
    · by_cases g2 : (L.sl k).ba = b
      · rw [HR.out, if_pos ⟨g1, g2⟩]
        rw [g1] at c1
        rw [g2] at c2
        clear HR HP1 Hr g1 g2
        go_enter Try.func28, Try.ntmps28
        go_wp2_with fail
        refine hm.mono ?_
        rintro e w1 ⟨rfl, rfl⟩
        go_wp2_with fail
        refine ho.mono ?_
        rintro e w1 ⟨rfl, rfl⟩
        go_wp2
        go_ret
        exact ⟨rfl, mp, HS.out⟩
      · obtain ⟨f1, f2, f3⟩ := bne_text g2
        rw [HR.out, if_neg (fun e => g2 e.2), if_pos (by rw [g1]; exact h0)]
        rw [g1] at c1 HP1
        rw [decide_eq_false h0] at HP1
        clear HR Hr g1
        generalize (L.sl k).ba = BA at *
        go_enter Try.func28, Try.ntmps28
        go_wp2_with fail
        refine hm.mono ?_
        rintro e w1 ⟨rfl, rfl⟩
        go_wp2_with fail
        refine ho.mono ?_
        rintro e w1 ⟨rfl, rfl⟩
        go_wp2_with fail
        refine Calls.mono HP1.out ?_
        rintro e w1 ⟨rfl, rfl⟩
        go_wp2
        go_ret
        exact ⟨rfl, mp, HS.out⟩
    · obtain ⟨f1, f2, f3⟩ := bne_text g1
      by_cases g3 : (L.sl k).pd = ⟨#[]⟩
      · rw [HR.out, if_neg (fun e => g1 e.1), if_neg (by simpa using g3)]
        rw [decide_eq_true g3] at HP1
        have HC : Hid (∀ wx, Calls Try.prog 43 #[.int .i64 q, .string d] wx fun e w' => e = .returned (.agg #[.int .i64 q, .string d]) ∧ Below wx.heap.size wx w') := fun wx => claimed_calls wx q d hz1
        have HN : Hid (∀ wx, Calls Try.prog 44 #[.string b] wx fun e w' => e = .returned (.string b) ∧ Below wx.heap.size wx w') := fun wx => clone_calls b wx hz2
        have hinf : (Try.prog.info? 59).map (·.size) = some (#[Value.int .i64 q, Value.string d]).size := by kernel_rfl
        have hone : (#[Value.int .i64 q, Value.string d]).all (·.oneCell') = true := by kernel_rfl
        generalize (L.sl k).pd = PD at c1 f1 f2 f3
        generalize (L.sl k).ba = BA at c2
        clear HR g1
        go_enter Try.func28, Try.ntmps28
        go_wp2_with fail
        refine hm.mono ?_
        rintro e w1 ⟨rfl, rfl⟩
        go_wp2_with fail
        refine ho.mono ?_
        rintro e w1 ⟨rfl, rfl⟩
        go_wp2_with fail
        refine Calls.mono HP1.out ?_
        rintro e w1 ⟨rfl, rfl⟩
        go_wp2_with fail
        refine (HC.out _).mono ?_
        rintro e w2 ⟨rfl, b2⟩
        go_wp2_with fail
        refine (HN.out _).mono ?_
        rintro e w3 ⟨rfl, b3⟩
        have b13 : Below w1.heap.size w1 w3 := b2.trans (b3.mono b2.size)
        have h3 := Lg.below HL.out b13
        have hr3 := rangeAt_block Hr.out (b13.block p (Lg.lt HL.out))
        have ht : w3.there p o (#[Value.int .i64 q, Value.string d]).size := h3.there (by have := Ho.out; have := Hk.out; simp; omega)
        obtain ⟨W4, hW4⟩ : ∃ W4, w3.setCells p o (#[Value.int .i64 q, Value.string d]).toList = W4 := ⟨_, rfl⟩
        have h4 : Lg W4 p mp (L.set k { L.sl k with ps := q, pd := d }) := by
          rw [← hW4, ← Ho.out]
          exact h3.store (i := 0) Hk.out (by simp) (by rw [Ho.out]; exact hr3) rfl (Sgr.below (w := w1) (base := 0) (v := lv) (l := (L.sl k).fl) HSG.out b13) rfl rfl
        have s4 : Stp p mp w1 mp W4 := by rw [← hW4]; exact (Stp.of_below b13).trans (stp_setCells p mp w3 _ _)
        obtain ⟨lv4, hr4, hsg4⟩ := h4.slot k Hk.out
        rw [set_sl] at hr4 hsg4
        have d2 : W4.cell? ⟨p, o + 2, none⟩ = some (.string (L.sl k).ba) := by have := hr4 2 _ rfl; rwa [Ho.out] at this
        have f4 : W4.frozen? ⟨p, o + 2, none⟩ = false := h4.fr _
        obtain ⟨W5, hW5⟩ : ∃ W5, W4.setCell ⟨p, o + 2, none⟩ (.string b) = W5 := ⟨_, rfl⟩
        have h5 : Lg W5 p mp (L.set k { L.sl k with ps := q, pd := d, ba := b }) := by
          rw [← hW5, ← Ho.out]
          have := h4.store (i := 2) (vs := [.string b]) (s' := { L.sl k with ps := q, pd := d, ba := b }) (lv' := lv4) Hk.out (by simp) (by rw [set_sl]; exact hr4) (by rw [set_sl]; rfl) hsg4 (by rw [set_sl]) (by rw [set_sl])
          rw [set_set] at this
          exact this
        have s5 : Stp p mp w1 mp W5 := by rw [← hW5]; exact s4.trans (stp_setCells p mp W4 (o + 2) [.string b])
        have HPr : Hid _ := prove_calls h5 (LInv.set HI.out rfl rfl) Hk.out
        rw [set_sl, set_set, Ho.out] at HPr
        have HS5 : Hid _ := s5
        generalize (L.sl k).ba = BA2 at d2
        clear h3 hr3 h4 s4 hr4 hsg4 h5 s5 b13
        go_wp2_with (with_reducible refine st_mid ht hinf hone hW4 rfl rfl ?_)
        refine Calls.mono HPr.out ?_
        rintro e w6 ⟨rfl, h6, s6⟩
        have HR6 : Hid _ := And.intro h6 (Stp.trans HS5.out s6)
        clear h6 s6
        go_wp2
        go_ret
        exact ⟨rfl, mp, HR6.out⟩
      · rw [HR.out, if_neg (fun e => g1 e.1), if_pos g3]
        rw [decide_eq_false g3] at HP1
        clear HR Hr
        generalize (L.sl k).pd = PD at *
        go_enter Try.func28, Try.ntmps28
        go_wp2_with fail
        refine hm.mono ?_
        rintro e w1 ⟨rfl, rfl⟩
        go_wp2_with fail
        refine ho.mono ?_
        rintro e w1 ⟨rfl, rfl⟩
        go_wp2_with fail
        refine Calls.mono HP1.out ?_
        rintro e w1 ⟨rfl, rfl⟩
        go_wp2
        go_ret
        exact ⟨rfl, mp, HS.out⟩
  · rw [if_neg h1] at ho
    have hR : L.propose vw q d b = (L, 100) := by
      unfold Lv.propose
      rw [if_neg h0, if_pos]
      by_cases e : L.wi q = true
      · exact Or.inr (fun e2 => h1 ⟨e, e2⟩)
      · exact Or.inl (by simpa using e)
    rw [hR]
    have HS : Hid _ := hself
    clear hself h hi h1 hR
    go_enter Try.func28, Try.ntmps28
    go_wp2_with fail
    refine hm.mono ?_
    rintro e w1 ⟨rfl, rfl⟩
    go_wp2_with fail
    refine ho.mono ?_
    rintro e w1 ⟨rfl, rfl⟩
    go_wp2
    go_ret
    exact ⟨rfl, mp, HS.out⟩
end Go.Proofs.Ytjpmnmgnbpecjaa
