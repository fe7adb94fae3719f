/- A proof bent in one of ten ways: what is left is a row of paths again. -/
import Derived.Test.YtakdnkknmjahoaaMkW
import Derived.Deep.CutBlock
namespace Go.Proofs.Ytakdnkknmjahoaa
open Go.RowKit
set_option linter.unusedSimpArgs false
set_option linter.unusedVariables false

theorem setCell_byM (w : World) (k o : Nat) (u : Value) : w.grownBy (w.setCell ⟨k, o, none⟩ u) (some k) :=
  ⟨rfl, rfl, rfl, by simp [World.setCell], fun i hi hn => heap_setCell_other w ⟨k, o, none⟩ i u (fun e => hn (by rw [e]))⟩
theorem own_setN {w : World} {base : Nat} {e : TypeId} {z n k o : Nat} {v u : Value} {xs : List Value} (ho : w.ownsRow base e z v n xs) (hk : v.ownBlock = none ∨ v.ownBlock ≠ some k) : (w.setCell ⟨k, o, none⟩ u).ownsRow base e z v n xs :=
  ho.kept (setCell_byM w k o u) hk
/-- Texts in a slice that lies elsewhere. -/
def Sd (w : World) (g r : Nat) (v : Value) (ls : List ByteArray) : Prop := Lf w v ls ∧ ∀ a n c, v = .slice (some a) n c → a.block ≠ g ∧ a.block ≠ r
theorem Lf.offM {w w' : World} {v : Value} {ls : List ByteArray} {g : Nat} (h : Lf w v ls) (ho : Off g w w') (hg : ∀ a n c, v = .slice (some a) n c → a.block ≠ g) : Lf w' v ls := by
  obtain ⟨a, cap, e, h1, h2, h3⟩ := h
  refine ⟨a, cap, e, h1, h2, fun i hi => ?_⟩
  obtain ⟨k, off, e2, h4⟩ := h3 i hi
  refine ⟨k, off, e2, ?_⟩
  have hne : k ≠ g := hg ⟨k, off, none⟩ _ _ (by rw [e, e2])
  exact (ho.cell (p := ⟨k, off + i, none⟩) (World.block_lt_of_cell? w _ h4) hne).trans h4
theorem Sd.off {w w' : World} {v : Value} {ls : List ByteArray} {g r k : Nat} (h : Sd w g r v ls) (ho : Off k w w') (hk : k = g ∨ k = r) : Sd w' g r v ls :=
  ⟨h.1.offM ho (fun a n c e => by have := h.2 a n c e; rcases hk with rfl | rfl; exact this.1; exact this.2), h.2⟩
theorem Sd.own {w : World} {base g r n cap : Nat} {v : Value} {ls : List ByteArray} {xs : List Value} {t : TypeId} {z : Nat} (h : w.ownsRow base 9 1 v ls.length (txC ls)) (hr : r < base) (h2 : w.ownsRow base t z (.slice (some ⟨g, 0, none⟩) n cap) n xs) (ht : 9 ≠ t) : Sd w g r v ls := by
  refine ⟨lf_own h, fun a n' c e => ?_⟩
  subst e
  have h3 := own_twoM h h2 ht
  rcases h.2 with ⟨q, _⟩ | ⟨g', cap', cur, q, hb, _⟩
  · cases q
  · injection q with q1 q2 q3
    injection q1 with q1
    subst q1
    refine ⟨fun e => ?_, ?_⟩
    · rcases h3 with h3 | h3
      · simp [Value.ownBlock] at h3
      · exact h3 (by simp [Value.ownBlock]; exact e)
    · show g' ≠ r
      omega
theorem off_by {w w' : World} {g : Nat} (h : Off g w w') : w.grownBy w' (some g) := ⟨h.os, h.tape, h.output, h.size, fun i hi hn => h.block i hi (fun e => hn (by rw [e]))⟩
theorem own_offN {w w' : World} {base g : Nat} {e : TypeId} {z n : Nat} {v : Value} {xs : List Value} (ho : w.ownsRow base e z v n xs) (h : Off g w w') (hk : v.ownBlock = none ∨ v.ownBlock ≠ some g) : w'.ownsRow base e z v n xs := ho.kept (off_by h) hk
theorem own_k3 {w : World} {base g c i : Nat} {L : List (Pt × Value)} {q : Pt × Value} (O : w.ownsRow base 62 4 (.slice (some ⟨g, 0, none⟩) L.length c) L.length (ptC L)) (h : L[i]? = some q) : w.cell? ⟨g, i * 4, none⟩ = some (.int .i64 q.1.idx) ∧ w.cell? ⟨g, i * 4 + 1, none⟩ = some (.string q.1.key) ∧ w.cell? ⟨g, i * 4 + 2, none⟩ = some (.string q.1.dat) ∧ w.cell? ⟨g, i * 4 + 3, none⟩ = some q.2 := by
  obtain ⟨hi, e⟩ := List.getElem?_eq_some_iff.1 h
  obtain ⟨g', cap', eg', _, _, hr⟩ := own_at O (by omega)
  simp only [Value.slice.injEq, Option.some.injEq, Addr.mk.injEq, and_true, true_and] at eg'
  obtain ⟨rfl, rfl⟩ := eg'
  have hqc := (ptC_get L i hi)
  rw [e] at hqc
  exact ⟨hr _ _ hqc.1, hr _ _ hqc.2.1, hr _ _ hqc.2.2.1, hr _ _ hqc.2.2.2⟩
theorem wp_append_runM {P : Program} {w : World} {o : Oper} {a : Act} {K : Act → World → Prop} {Q : Exit → Act → World → Prop} (s x : Operand) (t : TypeId)
    (ho : o.op = .call { callee := .builtin .append, args := #[s, x], argTypes := #[t, t] }) (v u : Value) (hs : a.eval s = v) (hx : a.eval x = u) {v' : Value} {w' : World}
    (hr : (Builtin.append_ #[t, t] o.type #[v, u]).run P w = .ok v' w') (h : K (a.put o.dst v') w') : o.wp P a w K Q := by
  unfold Oper.wp execOp
  simp only [ho, resolve, invoke, builtin, Sem.run_bind, Sem.run_pure, Result.andThen_ok, List.map_toArray, List.map_cons, List.map_nil, hs, hx, hr]
  exact h
theorem own_put {w : World} {base g c i : Nat} {L : List (Pt × Value)} {q : Pt × Value} (r : Pt × Value) (O : w.ownsRow base 62 4 (.slice (some ⟨g, 0, none⟩) L.length c) L.length (ptC L)) (h : L[i]? = some q) :
    ∃ V1 V2 V3 V4 : World, (w.setCell ⟨g, i * 4, none⟩ (.int .i64 r.1.idx) = V1 ∧ V1.setCell ⟨g, i * 4 + 1, none⟩ (.string r.1.key) = V2 ∧ V2.setCell ⟨g, i * 4 + 2, none⟩ (.string r.1.dat) = V3 ∧ V3.setCell ⟨g, i * 4 + 3, none⟩ r.2 = V4) ∧
      (w.frozen? ⟨g, i * 4, none⟩ = false ∧ V1.frozen? ⟨g, i * 4 + 1, none⟩ = false ∧ V2.frozen? ⟨g, i * 4 + 2, none⟩ = false ∧ V3.frozen? ⟨g, i * 4 + 3, none⟩ = false) ∧
      (w.cell? ⟨g, i * 4, none⟩ = some (.int .i64 q.1.idx) ∧ V1.cell? ⟨g, i * 4 + 1, none⟩ = some (.string q.1.key) ∧ V2.cell? ⟨g, i * 4 + 2, none⟩ = some (.string q.1.dat) ∧ V3.cell? ⟨g, i * 4 + 3, none⟩ = some q.2) ∧
      V4.ownsRow base 62 4 (.slice (some ⟨g, 0, none⟩) (L.set i r).length c) (L.set i r).length (ptC (L.set i r)) ∧ Off g w V4 := by
  have hi := (List.getElem?_eq_some_iff.1 h).1
  have O1 : (w.setCell ⟨g, i * 4, none⟩ (.int .i64 r.1.idx)).ownsRow base 62 4 (.slice (some ⟨g, 0, none⟩) (L.set i (⟨r.1.idx, q.1.key, q.1.dat, q.1.sides⟩, q.2)).length c) (L.set i (⟨r.1.idx, q.1.key, q.1.dat, q.1.sides⟩, q.2)).length (ptC (L.set i (⟨r.1.idx, q.1.key, q.1.dat, q.1.sides⟩, q.2))) := by
    rw [List.length_set, ← ptC_set0 _ h]; exact own_setAtM O (by omega)
  have h1 : (L.set i (⟨r.1.idx, q.1.key, q.1.dat, q.1.sides⟩, q.2))[i]? = some (⟨r.1.idx, q.1.key, q.1.dat, q.1.sides⟩, q.2) := by rw [List.getElem?_set_self hi]
  have O2 := own_setAtM (q := i * 4 + 1) (u := .string r.1.key) O1 (by rw [List.length_set]; omega)
  rw [ptC_set1 _ h1, List.set_set] at O2
  have h2 : (L.set i (⟨r.1.idx, r.1.key, q.1.dat, q.1.sides⟩, q.2))[i]? = some (⟨r.1.idx, r.1.key, q.1.dat, q.1.sides⟩, q.2) := by rw [List.getElem?_set_self hi]
  have O2' : ((w.setCell ⟨g, i * 4, none⟩ (.int .i64 r.1.idx)).setCell ⟨g, i * 4 + 1, none⟩ (.string r.1.key)).ownsRow base 62 4 (.slice (some ⟨g, 0, none⟩) (L.set i (⟨r.1.idx, r.1.key, q.1.dat, q.1.sides⟩, q.2)).length c) (L.set i (⟨r.1.idx, r.1.key, q.1.dat, q.1.sides⟩, q.2)).length (ptC (L.set i (⟨r.1.idx, r.1.key, q.1.dat, q.1.sides⟩, q.2))) := by
    rw [List.length_set] at O2 ⊢; exact O2
  have O3 := own_setAtM (q := i * 4 + 2) (u := .string r.1.dat) O2' (by rw [List.length_set]; omega)
  rw [ptC_set2 _ h2, List.set_set] at O3
  have h3 : (L.set i (⟨r.1.idx, r.1.key, r.1.dat, q.1.sides⟩, q.2))[i]? = some (⟨r.1.idx, r.1.key, r.1.dat, q.1.sides⟩, q.2) := by rw [List.getElem?_set_self hi]
  have O3' : (((w.setCell ⟨g, i * 4, none⟩ (.int .i64 r.1.idx)).setCell ⟨g, i * 4 + 1, none⟩ (.string r.1.key)).setCell ⟨g, i * 4 + 2, none⟩ (.string r.1.dat)).ownsRow base 62 4 (.slice (some ⟨g, 0, none⟩) (L.set i (⟨r.1.idx, r.1.key, r.1.dat, q.1.sides⟩, q.2)).length c) (L.set i (⟨r.1.idx, r.1.key, r.1.dat, q.1.sides⟩, q.2)).length (ptC (L.set i (⟨r.1.idx, r.1.key, r.1.dat, q.1.sides⟩, q.2))) := by
    rw [List.length_set] at O3 ⊢; exact O3
  have O4 := own_setAtM (q := i * 4 + 3) (u := r.2) O3' (by rw [List.length_set]; omega)
  rw [ptC_set3 r.1.sides r.2 h3, List.set_set] at O4
  obtain ⟨_, Y0, _⟩ := own_blk O
  obtain ⟨_, Y1, _⟩ := own_blk O1
  obtain ⟨_, Y2, _⟩ := own_blk O2'
  obtain ⟨_, Y3, _⟩ := own_blk O3'
  refine ⟨_, _, _, _, ⟨rfl, rfl, rfl, rfl⟩, ⟨Y0.frozen, Y1.frozen, Y2.frozen, Y3.frozen⟩, ⟨(own_k3 O h).1, (own_k3 O1 h1).2.1, (own_k3 O2' h2).2.2.1, (own_k3 O3' h3).2.2.2⟩, ?_, ?_⟩
  · rw [List.length_set] at O4 ⊢; exact O4
  · exact ((((Off.refl g w).setCell (p := ⟨g, _, none⟩) rfl _).setCell (p := ⟨g, _, none⟩) rfl _).setCell (p := ⟨g, _, none⟩) rfl _).setCell (p := ⟨g, _, none⟩) rfl _
/-- What a bend leaves. -/
def BentP (w : World) (n : Nat) (e : Ending) (w' : World) : Prop := ∃ (c : Int) (a : Option Addr) (cap : Nat) (M : List (Pt × Value)), e = .returned (.agg #[.int .i64 c, .slice a M.length cap]) ∧ PR w' (.slice a M.length cap) M ∧ Sm (n + 1) M ∧ Below w.heap.size w w'
theorem bentP_mk {w w' : World} {n m cap : Nat} {c : Int} {a : Option Addr} {M : List (Pt × Value)} (hm : M.length = m) (hp : PR w' (.slice a m cap) M) (hs : Sm (n + 1) M) (hb : Below w.heap.size w w') : BentP w n (.returned (.agg #[.int .i64 c, .slice a m cap])) w' := ⟨c, a, cap, M, by rw [hm], by rw [hm]; exact hp, hs, hb⟩
set_option maxHeartbeats 16000000 in
set_option maxRecDepth 100000 in
theorem bent_calls (cnt : Int) (v : Value) (L : List (Pt × Value)) (n : Nat) (bw bi bn : Int) (tx : ByteArray) (w : World) (h : PR w v L) (hs : Sm n L) (hn : n ≤ 1000) (htx : tx.size ≤ maxLen) :
    Calls Try.prog 16 #[.agg #[.int .i64 cnt, v], .agg #[.int .i64 bw, .int .i64 bi, .int .i64 bn, .string tx]] w (BentP w n) := by
  obtain ⟨a0, cap0, rfl⟩ : ∃ a0 cap0, v = .slice a0 L.length cap0 := by obtain ⟨⟨a, c, e, _⟩, _⟩ := h; exact ⟨a, c, e⟩
  have hl1 := hs.1
  obtain ⟨W1, hW1, X1, B1, Z1⟩ : ∃ W1, w.alloc (.cells #[.int .i64 cnt, .slice a0 L.length cap0] 28) = W1 ∧ Blk W1 w.heap.size #[.int .i64 cnt, .slice a0 L.length cap0] 28 ∧ Below w.heap.size w W1 ∧ W1.heap.size = w.heap.size + 1 :=
    ⟨_, rfl, blk_new _ _ _ _ rfl, by go_grown, by simp⟩
  obtain ⟨W2, hW2, X2, XB2, B2, Z2⟩ : ∃ W2, W1.alloc (.cells #[.int .i64 bw, .int .i64 bi, .int .i64 bn, .string tx] 46) = W2 ∧ Blk W2 w.heap.size #[.int .i64 cnt, .slice a0 L.length cap0] 28 ∧ Blk W2 (w.heap.size + 1) #[.int .i64 bw, .int .i64 bi, .int .i64 bn, .string tx] 46 ∧ Below w.heap.size w W2 ∧ W2.heap.size = w.heap.size + 2 :=
    ⟨_, rfl, X1.alloc _, blk_new _ _ _ _ (by rw [Z1]), B1.alloc (by omega) _, by simp [Z1]⟩
  obtain ⟨W3, hW3, X3, XB3, XR3, B3, Z3⟩ : ∃ W3, W2.alloc (.cells #[.int .i64 0, .slice none 0 0] 28) = W3 ∧ Blk W3 w.heap.size #[.int .i64 cnt, .slice a0 L.length cap0] 28 ∧ Blk W3 (w.heap.size + 1) #[.int .i64 bw, .int .i64 bi, .int .i64 bn, .string tx] 46 ∧ Blk W3 (w.heap.size + 2) #[.int .i64 0, .slice none 0 0] 28 ∧ Below w.heap.size w W3 ∧ W3.heap.size = w.heap.size + 3 :=
    ⟨_, rfl, X2.alloc _, XB2.alloc _, blk_new _ _ _ _ (by rw [Z2]), B2.alloc (by omega) _, by simp [Z2]⟩
  have HPQ : Hid (∀ (wx : World), Below w.heap.size w wx → ∀ q ∈ L, PQ wx q) := fun wx hb q hq => (h.2 q hq).below hb
  have HP3 : Hid _ := h.below B3
  have p1 : W3.cell? ⟨w.heap.size, 1, none⟩ = some (.slice a0 L.length cap0) := X3.cell rfl
  have HSm : Hid _ := hs
  clear h hs
  go_enter Try.func16, Try.ntmps16
  go_wp2_with (at_builtin; refine copyP _ rfl _ _ rfl rfl _ L rfl rfl HP3.out (by omega) (w.heap.size + 3) (by omega) ?_)
  intro v1 w4 ho hb4
  rw [← Z3] at hb4
  obtain ⟨a1, c1, rfl⟩ := own_sliceM ho
  have X4 := X3.below hb4
  have XB4 := XB3.below hb4
  have XR4 := XR3.below hb4
  have B4 := chain B3 hb4
  have z4 := hb4.size
  have f4 : w4.frozen? ⟨w.heap.size, 1, none⟩ = false := X4.frozen
  have p4 : w4.cell? ⟨w.heap.size, 1, none⟩ = some (.slice a0 L.length cap0) := X4.cell rfl
  obtain ⟨W5, hW5, X5, XB5, XR5, B5, O5, Z5⟩ : ∃ W5, w4.setCell ⟨w.heap.size, 1, none⟩ (.slice a1 L.length c1) = W5 ∧ Blk W5 w.heap.size #[.int .i64 cnt, .slice a1 L.length c1] 28 ∧ Blk W5 (w.heap.size + 1) #[.int .i64 bw, .int .i64 bi, .int .i64 bn, .string tx] 46 ∧ Blk W5 (w.heap.size + 2) #[.int .i64 0, .slice none 0 0] 28 ∧ Below w.heap.size w W5 ∧ W5.ownsRow (w.heap.size + 3) 62 4 (.slice a1 L.length c1) L.length (ptC L) ∧ w.heap.size + 3 ≤ W5.heap.size :=
    ⟨_, rfl, X4.set 1 _, XB4.setOther (by simp) _, XR4.setOther (by simp) _, (Off.setCell (Off.refl _ _) (p := ⟨w.heap.size, 1, none⟩) rfl _).below (Nat.le_refl _) B4 B4.size, own_setM ho (by omega), by simp [World.setCell]; omega⟩
  have b0 : W5.cell? ⟨w.heap.size + 1, 0, none⟩ = some (.int .i64 bw) := XB5.cell rfl
  have b1 : W5.cell? ⟨w.heap.size + 1, 1, none⟩ = some (.int .i64 bi) := XB5.cell rfl
  have b2 : W5.cell? ⟨w.heap.size + 1, 2, none⟩ = some (.int .i64 bn) := XB5.cell rfl
  have b3 : W5.cell? ⟨w.heap.size + 1, 3, none⟩ = some (.string tx) := XB5.cell rfl
  clear X1 X2 XB2 X3 XB3 XR3 X4 XB4 XR4 HP3 p1 ho hb4 B1 B2 B3 B4 Z1 Z2 Z3
  go_wp2_with fail
  refine (around_calls bw 10 W5 (by omega) (by omega)).mono ?_
  rintro e W5 ⟨⟨z, z0, z1, rfl⟩, rfl⟩
  by_cases hz : z = 0
  · subst hz
    go_wp2_with fail
    refine (around_calls bn 300 W5 (by omega) (by omega)).mono ?_
    rintro e W5 ⟨⟨k, k0, k1, rfl⟩, rfl⟩
    have f5 : W5.frozen? ⟨w.heap.size, 0, none⟩ = false := X5.frozen
    have p5 : W5.cell? ⟨w.heap.size, 0, none⟩ = some (.int .i64 cnt) := X5.cell rfl
    obtain ⟨W6, hW6, X6, XR6, B6, O6⟩ : ∃ W6, W5.setCell ⟨w.heap.size, 0, none⟩ (.int .i64 k) = W6 ∧ Blk W6 w.heap.size #[.int .i64 k, .slice a1 L.length c1] 28 ∧ Blk W6 (w.heap.size + 2) #[.int .i64 0, .slice none 0 0] 28 ∧ Below w.heap.size w W6 ∧ W6.ownsRow (w.heap.size + 3) 62 4 (.slice a1 L.length c1) L.length (ptC L) :=
      ⟨_, rfl, X5.set 0 _, XR5.setOther (by simp) _, (Off.setCell (Off.refl _ _) (p := ⟨w.heap.size, 0, none⟩) rfl _).below (Nat.le_refl _) B5 B5.size, own_setM O5 (by omega)⟩
    obtain ⟨W9, hW9, R9, hoth9, Z9, ho9⟩ := setRow_named XR6 #[.int .i64 k, .slice a1 L.length c1]
    have c90 : W6.cell? ⟨w.heap.size, 0, none⟩ = some (.int .i64 k) := X6.cell rfl
    have c91 : W6.cell? ⟨w.heap.size, 1, none⟩ = some (.slice a1 L.length c1) := X6.cell rfl
    have B9 : Below w.heap.size w W9 := below_row B6 hW9 (by omega)
    have PR9 : Hid (PR W9 (.slice a1 L.length c1) L) := PR.own (by rw [← hW9]; exact own_rowM O6 (by omega)) (HPQ.out _ B9)
    have HSn : Hid (Sm (n + 1) L) := Sm.up HSm.out
    go_wp2_with ((with_reducible refine st_row (ty := 28) XR6 (infoPf2 _ _) (pfSame _ _ _ _) (pfOne _ _ _ _) hW9 ?_ ?_ ?_); rfl; rfl)
    refine bodyPost_ret (v := .agg #[.int .i64 k, .slice a1 L.length c1]) (bent_results R9 rfl) rfl ?_
    exact bentP_mk (rfl) PR9.out HSn.out B9
  · have dz : decide (z = 0) = false := decide_eq_false hz
    have dz' : (z == 0) = false := dz
    by_cases hL0 : L.length = 0
    · have d0 : decide ((L.length : Int) = 0) = true := decide_eq_true (by omega)
      have d0' : ((L.length : Int) == 0) = true := d0
      clear hL0
      obtain ⟨W9, hW9, R9, hoth9, Z9, ho9⟩ := setRow_named XR5 #[.int .i64 cnt, .slice a1 L.length c1]
      have c90 : W5.cell? ⟨w.heap.size, 0, none⟩ = some (.int .i64 cnt) := X5.cell rfl
      have c91 : W5.cell? ⟨w.heap.size, 1, none⟩ = some (.slice a1 L.length c1) := X5.cell rfl
      have B9 : Below w.heap.size w W9 := below_row B5 hW9 (by omega)
      have PR9 : Hid (PR W9 (.slice a1 L.length c1) L) := PR.own (by rw [← hW9]; exact own_rowM O5 (by omega)) (HPQ.out _ B9)
      have HSn : Hid (Sm (n + 1) L) := Sm.up HSm.out
      go_wp2_with ((with_reducible refine st_row (ty := 28) XR5 (infoPf2 _ _) (pfSame _ _ _ _) (pfOne _ _ _ _) hW9 ?_ ?_ ?_); rfl; rfl)
      refine bodyPost_ret (v := .agg #[.int .i64 cnt, .slice a1 L.length c1]) (bent_results R9 rfl) rfl ?_
      exact bentP_mk (rfl) PR9.out HSn.out B9
    · have d0 : decide ((L.length : Int) = 0) = false := decide_eq_false (by omega)
      have d0' : ((L.length : Int) == 0) = false := d0
      go_wp2_with fail
      refine (around_calls bi L.length W5 (by omega) (by omega)).mono ?_
      rintro e W5 ⟨⟨i', k0, k1, rfl⟩, rfl⟩
      obtain ⟨i, rfl⟩ := Int.eq_ofNat_of_zero_le k0
      have hi : i < L.length := by omega
      obtain ⟨g1, cap1, eg, hg1, hcap1, hrow⟩ := own_at O5 (by omega)
      simp only [Value.slice.injEq, true_and] at eg
      obtain ⟨rfl, rfl⟩ := eg
      obtain ⟨q, hq⟩ : ∃ q, L[i]? = some q := ⟨L[i], List.getElem?_eq_getElem hi⟩
      have hqm := List.mem_of_getElem? hq
      have hqc := (ptC_get L i hi)
      rw [(List.getElem?_eq_some_iff.1 hq).2] at hqc
      obtain ⟨sa, sc, hsv, hsl⟩ : ∃ sa sc, q.2 = .slice sa q.1.sides.length sc ∧ True := by obtain ⟨a, c, e, _⟩ := (HPQ.out _ B5 q hqm).1; exact ⟨a, c, e, trivial⟩
      have c3 : W5.cell? ⟨g1, i * 4 + 3, none⟩ = some (.slice sa q.1.sides.length sc) := by rw [← hsv]; exact hrow _ _ hqc.2.2.2
      have HLf : Hid (Lf W5 (.slice sa q.1.sides.length sc) q.1.sides) := by rw [← hsv]; exact (HPQ.out _ B5 q hqm).1
      have HQ : Hid _ := hq
      have HQM : Hid _ := hqm
      have hns : q.1.sides.length ≤ n := HSm.out.2 q hqm
      have HROW : Hid _ := hrow
      obtain ⟨ss, hss⟩ : ∃ ss, q.1.sides = ss := ⟨_, rfl⟩
      rw [hss] at c3 HLf hns
      clear hq hqm hqc hsv hsl hrow
      go_wp2_with (at_builtin; refine copyS _ rfl _ _ rfl rfl _ ss rfl rfl HLf.out (by omega) (w.heap.size + 3) (by omega) ?_)
      intro sv w7 hos hb7
      obtain ⟨a2, c2, rfl⟩ := own_sliceM hos
      have X7 := X5.below hb7
      have XB7 := XB5.below hb7
      have XR7 := XR5.below hb7
      have B7 := chain B5 hb7
      have O7 := own_below O5 hb7
      have z7 := hb7.size
      have d0_ : w7.cell? ⟨w.heap.size + 1, 0, none⟩ = some (.int .i64 bw) := XB7.cell rfl
      have d1_ : w7.cell? ⟨w.heap.size + 1, 1, none⟩ = some (.int .i64 bi) := XB7.cell rfl
      have d2_ : w7.cell? ⟨w.heap.size + 1, 2, none⟩ = some (.int .i64 bn) := XB7.cell rfl
      have d3_ : w7.cell? ⟨w.heap.size + 1, 3, none⟩ = some (.string tx) := XB7.cell rfl
      clear b0 b1 b2 b3 c3 XB5 X5 XR5 hW5 HLf HROW f4 p4
      go_upto_if 44 with fail
      go_cut [9] (fun kv wx => ∃ k : Nat, kv = .int .i64 k ∧ (0 < ss.length → k < ss.length) ∧ wx = w7)
      case first =>
        by_cases hs0 : 0 < ss.length
        · have ds : decide ((0 : Int) < (ss.length : Int)) = true := decide_eq_true (by omega)
          go_wp2_with fail
          refine (around_calls bn ss.length w7 (by omega) (by omega)).mono ?_
          rintro e w7 ⟨⟨k', k2, k3, rfl⟩, rfl⟩
          obtain ⟨k, rfl⟩ := Int.eq_ofNat_of_zero_le k2
          go_wp2
          go_meet
          exact ⟨k, rfl, fun _ => by omega, rfl⟩
        · have ds : decide ((0 : Int) < (ss.length : Int)) = false := decide_eq_false (by omega)
          go_wp2
          go_meet
          exact ⟨0, rfl, fun h => absurd h hs0, rfl⟩
      case rest =>
        obtain ⟨k, rfl, hk, rfl⟩ := hcut
        rename World => w7
        obtain ⟨cur7, Y7, hgb, hcb, hcx⟩ := own_blk O7
        obtain ⟨g', cap', eg', _, _, hr7⟩ := own_at O7 (by omega)
        simp only [Value.slice.injEq, Option.some.injEq, Addr.mk.injEq, and_true, true_and] at eg'
        obtain ⟨rfl, rfl⟩ := eg'
        have hqc := (ptC_get L i hi)
        rw [(List.getElem?_eq_some_iff.1 HQ.out).2] at hqc
        have k0_ := hr7 _ _ hqc.1
        have k1_ := hr7 _ _ hqc.2.1
        have k2_ := hr7 _ _ hqc.2.2.1
        have k3_ := hr7 _ _ hqc.2.2.2
        have HR7 : Hid _ := hr7
        clear hr7 hqc
        rcases (by omega : z = 1 ∨ z = 2 ∨ z = 3 ∨ z = 4 ∨ z = 5 ∨ z = 6 ∨ z = 7 ∨ z = 8 ∨ z = 9) with rfl | rfl | rfl | rfl | rfl | rfl | rfl | rfl | rfl
        · go_wp2_with fail
          refine (around_calls bn 300 w7 (by omega) (by omega)).mono ?_
          rintro e w7 ⟨⟨kk, k2, k3, rfl⟩, rfl⟩
          have fz : w7.frozen? ⟨g1, i * 4, none⟩ = false := Y7.frozen
          obtain ⟨W8, hW8, X8, XR8, B8, O8⟩ : ∃ W8, w7.setCell ⟨g1, i * 4, none⟩ (.int .i64 kk) = W8 ∧ Blk W8 w.heap.size #[.int .i64 cnt, .slice (some ⟨g1, 0, none⟩) L.length c1] 28 ∧ Blk W8 (w.heap.size + 2) #[.int .i64 0, .slice none 0 0] 28 ∧ Below w.heap.size w W8 ∧ W8.ownsRow (w.heap.size + 3) 62 4 (.slice (some ⟨g1, 0, none⟩) L.length c1) (L.set i (⟨kk, q.1.key, q.1.dat, q.1.sides⟩, q.2)).length (ptC (L.set i (⟨kk, q.1.key, q.1.dat, q.1.sides⟩, q.2))) :=
            ⟨_, rfl, X7.setOther (by simp; omega) _, XR7.setOther (by simp; omega) _, (Off.setCell (b := g1) (Off.refl _ _) (p := ⟨g1, _, none⟩) rfl _).below (by omega) B7 B7.size, by rw [List.length_set, ← ptC_set0 kk HQ.out]; exact own_setAtM O7 (by omega)⟩
          obtain ⟨W9, hW9, R9, hoth9, Z9, ho9⟩ := setRow_named XR8 #[.int .i64 cnt, .slice (some ⟨g1, 0, none⟩) L.length c1]
          have c90 : W8.cell? ⟨w.heap.size, 0, none⟩ = some (.int .i64 cnt) := X8.cell rfl
          have c91 : W8.cell? ⟨w.heap.size, 1, none⟩ = some (.slice (some ⟨g1, 0, none⟩) L.length c1) := X8.cell rfl
          have B9 : Below w.heap.size w W9 := below_row B8 hW9 (by omega)
          have PR9 : Hid (PR W9 (.slice (some ⟨g1, 0, none⟩) L.length c1) (L.set i (⟨kk, q.1.key, q.1.dat, q.1.sides⟩, q.2))) := PR.set (by rw [← hW9]; exact own_rowM (by rw [List.length_set] at O8 ⊢; exact O8) (by omega)) (HPQ.out _ B9) ((have h := HPQ.out _ B9 q HQM.out; ⟨h.1, h.2.1, h.2.2.1, h.2.2.2⟩))
          have HSn : Hid (Sm (n + 1) (L.set i (⟨kk, q.1.key, q.1.dat, q.1.sides⟩, q.2))) := Sm.set HSm.out _ (by have := HSm.out.2 q HQM.out; show q.1.sides.length ≤ n + 1; omega)
          go_wp2_with ((with_reducible refine st_row (ty := 28) XR8 (infoPf2 _ _) (pfSame _ _ _ _) (pfOne _ _ _ _) hW9 ?_ ?_ ?_); rfl; rfl)
          refine bodyPost_ret (v := .agg #[.int .i64 cnt, .slice (some ⟨g1, 0, none⟩) L.length c1]) (bent_results R9 rfl) rfl ?_
          exact bentP_mk (List.length_set) PR9.out HSn.out B9
        · skip
          have fz : w7.frozen? ⟨g1, i * 4 + 1, none⟩ = false := Y7.frozen
          obtain ⟨W8, hW8, X8, XR8, B8, O8⟩ : ∃ W8, w7.setCell ⟨g1, i * 4 + 1, none⟩ (.string tx) = W8 ∧ Blk W8 w.heap.size #[.int .i64 cnt, .slice (some ⟨g1, 0, none⟩) L.length c1] 28 ∧ Blk W8 (w.heap.size + 2) #[.int .i64 0, .slice none 0 0] 28 ∧ Below w.heap.size w W8 ∧ W8.ownsRow (w.heap.size + 3) 62 4 (.slice (some ⟨g1, 0, none⟩) L.length c1) (L.set i (⟨q.1.idx, tx, q.1.dat, q.1.sides⟩, q.2)).length (ptC (L.set i (⟨q.1.idx, tx, q.1.dat, q.1.sides⟩, q.2))) :=
            ⟨_, rfl, X7.setOther (by simp; omega) _, XR7.setOther (by simp; omega) _, (Off.setCell (b := g1) (Off.refl _ _) (p := ⟨g1, _, none⟩) rfl _).below (by omega) B7 B7.size, by rw [List.length_set, ← ptC_set1 tx HQ.out]; exact own_setAtM O7 (by omega)⟩
          obtain ⟨W9, hW9, R9, hoth9, Z9, ho9⟩ := setRow_named XR8 #[.int .i64 cnt, .slice (some ⟨g1, 0, none⟩) L.length c1]
          have c90 : W8.cell? ⟨w.heap.size, 0, none⟩ = some (.int .i64 cnt) := X8.cell rfl
          have c91 : W8.cell? ⟨w.heap.size, 1, none⟩ = some (.slice (some ⟨g1, 0, none⟩) L.length c1) := X8.cell rfl
          have B9 : Below w.heap.size w W9 := below_row B8 hW9 (by omega)
          have PR9 : Hid (PR W9 (.slice (some ⟨g1, 0, none⟩) L.length c1) (L.set i (⟨q.1.idx, tx, q.1.dat, q.1.sides⟩, q.2))) := PR.set (by rw [← hW9]; exact own_rowM (by rw [List.length_set] at O8 ⊢; exact O8) (by omega)) (HPQ.out _ B9) ((have h := HPQ.out _ B9 q HQM.out; ⟨h.1, h.2.1, htx, h.2.2.2⟩))
          have HSn : Hid (Sm (n + 1) (L.set i (⟨q.1.idx, tx, q.1.dat, q.1.sides⟩, q.2))) := Sm.set HSm.out _ (by have := HSm.out.2 q HQM.out; show q.1.sides.length ≤ n + 1; omega)
          go_wp2_with ((with_reducible refine st_row (ty := 28) XR8 (infoPf2 _ _) (pfSame _ _ _ _) (pfOne _ _ _ _) hW9 ?_ ?_ ?_); rfl; rfl)
          refine bodyPost_ret (v := .agg #[.int .i64 cnt, .slice (some ⟨g1, 0, none⟩) L.length c1]) (bent_results R9 rfl) rfl ?_
          exact bentP_mk (List.length_set) PR9.out HSn.out B9
        · skip
          have fz : w7.frozen? ⟨g1, i * 4 + 2, none⟩ = false := Y7.frozen
          obtain ⟨W8, hW8, X8, XR8, B8, O8⟩ : ∃ W8, w7.setCell ⟨g1, i * 4 + 2, none⟩ (.string tx) = W8 ∧ Blk W8 w.heap.size #[.int .i64 cnt, .slice (some ⟨g1, 0, none⟩) L.length c1] 28 ∧ Blk W8 (w.heap.size + 2) #[.int .i64 0, .slice none 0 0] 28 ∧ Below w.heap.size w W8 ∧ W8.ownsRow (w.heap.size + 3) 62 4 (.slice (some ⟨g1, 0, none⟩) L.length c1) (L.set i (⟨q.1.idx, q.1.key, tx, q.1.sides⟩, q.2)).length (ptC (L.set i (⟨q.1.idx, q.1.key, tx, q.1.sides⟩, q.2))) :=
            ⟨_, rfl, X7.setOther (by simp; omega) _, XR7.setOther (by simp; omega) _, (Off.setCell (b := g1) (Off.refl _ _) (p := ⟨g1, _, none⟩) rfl _).below (by omega) B7 B7.size, by rw [List.length_set, ← ptC_set2 tx HQ.out]; exact own_setAtM O7 (by omega)⟩
          obtain ⟨W9, hW9, R9, hoth9, Z9, ho9⟩ := setRow_named XR8 #[.int .i64 cnt, .slice (some ⟨g1, 0, none⟩) L.length c1]
          have c90 : W8.cell? ⟨w.heap.size, 0, none⟩ = some (.int .i64 cnt) := X8.cell rfl
          have c91 : W8.cell? ⟨w.heap.size, 1, none⟩ = some (.slice (some ⟨g1, 0, none⟩) L.length c1) := X8.cell rfl
          have B9 : Below w.heap.size w W9 := below_row B8 hW9 (by omega)
          have PR9 : Hid (PR W9 (.slice (some ⟨g1, 0, none⟩) L.length c1) (L.set i (⟨q.1.idx, q.1.key, tx, q.1.sides⟩, q.2))) := PR.set (by rw [← hW9]; exact own_rowM (by rw [List.length_set] at O8 ⊢; exact O8) (by omega)) (HPQ.out _ B9) ((have h := HPQ.out _ B9 q HQM.out; ⟨h.1, h.2.1, h.2.2.1, htx⟩))
          have HSn : Hid (Sm (n + 1) (L.set i (⟨q.1.idx, q.1.key, tx, q.1.sides⟩, q.2))) := Sm.set HSm.out _ (by have := HSm.out.2 q HQM.out; show q.1.sides.length ≤ n + 1; omega)
          go_wp2_with ((with_reducible refine st_row (ty := 28) XR8 (infoPf2 _ _) (pfSame _ _ _ _) (pfOne _ _ _ _) hW9 ?_ ?_ ?_); rfl; rfl)
          refine bodyPost_ret (v := .agg #[.int .i64 cnt, .slice (some ⟨g1, 0, none⟩) L.length c1]) (bent_results R9 rfl) rfl ?_
          exact bentP_mk (List.length_set) PR9.out HSn.out B9
        · by_cases hs0 : 0 < ss.length
          · have ds : decide ((0 : Int) < (ss.length : Int)) = true := decide_eq_true (by omega)
            have hk' := hk hs0
            have hkz : (k : Int) < (ss.length : Int) := by omega
            obtain ⟨g2, cap2, eg2, hg2, hcap2, hrow2⟩ := own_at hos hs0
            simp only [Value.slice.injEq, true_and] at eg2
            obtain ⟨rfl, rfl⟩ := eg2
            have h12 : g2 ≠ g1 := fun e => by
              rcases own_twoM hos O7 (by decide) with h3 | h3
              · simp [Value.ownBlock] at h3
              · exact h3 (by simp [Value.ownBlock]; exact e)
            obtain ⟨cur2, Y2, _, _, _⟩ := own_blk hos
            have kk2 := hrow2 k (.string ss[k]) (by simp [txC, hk'])
            have fz2 : w7.frozen? ⟨g2, k, none⟩ = false := Y2.frozen
            obtain ⟨W8, hW8, X8, XR8, B8, O8, Y8, S8, k38⟩ : ∃ W8, w7.setCell ⟨g2, k, none⟩ (.string tx) = W8 ∧ Blk W8 w.heap.size #[.int .i64 cnt, .slice (some ⟨g1, 0, none⟩) L.length c1] 28 ∧ Blk W8 (w.heap.size + 2) #[.int .i64 0, .slice none 0 0] 28 ∧ Below w.heap.size w W8 ∧ W8.ownsRow (w.heap.size + 3) 62 4 (.slice (some ⟨g1, 0, none⟩) L.length c1) L.length (ptC L) ∧ Blk W8 g1 cur7 62 ∧ Hid (Sd W8 g1 (w.heap.size + 2) (.slice (some ⟨g2, 0, none⟩) ss.length c2) (ss.set k tx)) ∧ W8.cell? ⟨g1, i * 4 + 3, none⟩ = some q.2 :=
              ⟨_, rfl, X7.setOther (by simp; omega) _, XR7.setOther (by simp; omega) _, (Off.setCell (b := g2) (Off.refl _ _) (p := ⟨g2, _, none⟩) rfl _).below (by omega) B7 B7.size, own_setN O7 (Or.inr (by simp [Value.ownBlock]; exact fun e => h12 e.symm)), Y7.setOther (by simp; exact fun e => h12 e.symm) _,
                Sd.own (base := w.heap.size + 3) (by rw [List.length_set, ← txC_set]; exact own_setAtM hos (by omega)) (by omega) (own_setN O7 (Or.inr (by simp [Value.ownBlock]; exact fun e => h12 e.symm))) (by decide),
                ((Off.setCell (b := g2) (Off.refl _ _) (p := ⟨g2, _, none⟩) rfl _).cell (p := ⟨g1, i * 4 + 3, none⟩) (World.block_lt_of_cell? _ _ k3_) (fun e => h12 e.symm)).trans k3_⟩
            have fzS : W8.frozen? ⟨g1, i * 4 + 3, none⟩ = false := Y8.frozen
            obtain ⟨WS, hWS, XS, XRS, BS, OS, SS⟩ : ∃ WS, W8.setCell ⟨g1, i * 4 + 3, none⟩ (.slice (some ⟨g2, 0, none⟩) ss.length c2) = WS ∧ Blk WS w.heap.size #[.int .i64 cnt, .slice (some ⟨g1, 0, none⟩) L.length c1] 28 ∧ Blk WS (w.heap.size + 2) #[.int .i64 0, .slice none 0 0] 28 ∧ Below w.heap.size w WS ∧ WS.ownsRow (w.heap.size + 3) 62 4 (.slice (some ⟨g1, 0, none⟩) L.length c1) (L.set i (⟨q.1.idx, q.1.key, q.1.dat, ss.set k tx⟩, .slice (some ⟨g2, 0, none⟩) ss.length c2)).length (ptC (L.set i (⟨q.1.idx, q.1.key, q.1.dat, ss.set k tx⟩, .slice (some ⟨g2, 0, none⟩) ss.length c2))) ∧ Hid (Sd WS g1 (w.heap.size + 2) (.slice (some ⟨g2, 0, none⟩) ss.length c2) (ss.set k tx)) :=
              ⟨_, rfl, X8.setOther (by simp; omega) _, XR8.setOther (by simp; omega) _, (Off.setCell (b := g1) (Off.refl _ _) (p := ⟨g1, _, none⟩) rfl _).below (by omega) B8 B8.size, by rw [List.length_set, ← ptC_set3 (ss.set k tx) (.slice (some ⟨g2, 0, none⟩) ss.length c2) HQ.out]; exact own_setAtM O8 (by omega), Sd.off S8.out (Off.setCell (b := g1) (Off.refl _ _) (p := ⟨g1, _, none⟩) rfl _) (Or.inl rfl)⟩
            obtain ⟨W9, hW9, R9, hoth9, Z9, ho9⟩ := setRow_named XRS #[.int .i64 cnt, .slice (some ⟨g1, 0, none⟩) L.length c1]
            have c90 : WS.cell? ⟨w.heap.size, 0, none⟩ = some (.int .i64 cnt) := XS.cell rfl
            have c91 : WS.cell? ⟨w.heap.size, 1, none⟩ = some (.slice (some ⟨g1, 0, none⟩) L.length c1) := XS.cell rfl
            have B9 : Below w.heap.size w W9 := below_row BS hW9 (by omega)
            have PR9 : Hid (PR W9 (.slice (some ⟨g1, 0, none⟩) L.length c1) (L.set i (⟨q.1.idx, q.1.key, q.1.dat, ss.set k tx⟩, .slice (some ⟨g2, 0, none⟩) ss.length c2))) := PR.set (by rw [← hW9]; exact own_rowM (by rw [List.length_set] at OS ⊢; exact OS) (by omega)) (HPQ.out _ B9) ((have h := HPQ.out _ B9 q HQM.out; ⟨(by rw [← hW9]; exact (Sd.off SS.out ((Off.refl _ _).setRow _) (Or.inr rfl)).1), (fun s hs => by rcases List.mem_or_eq_of_mem_set hs with h1 | rfl; exact h.2.1 s (by rw [hss]; exact h1); exact htx), h.2.2.1, h.2.2.2⟩))
            have HSn : Hid (Sm (n + 1) (L.set i (⟨q.1.idx, q.1.key, q.1.dat, ss.set k tx⟩, .slice (some ⟨g2, 0, none⟩) ss.length c2))) := Sm.set HSm.out _ (by show List.length (ss.set k tx) ≤ n + 1; rw [List.length_set]; omega)
            go_wp2_with ((with_reducible refine st_row (ty := 28) XRS (infoPf2 _ _) (pfSame _ _ _ _) (pfOne _ _ _ _) hW9 ?_ ?_ ?_); rfl; rfl)
            refine bodyPost_ret (v := .agg #[.int .i64 cnt, .slice (some ⟨g1, 0, none⟩) L.length c1]) (bent_results R9 rfl) rfl ?_
            exact bentP_mk (List.length_set) PR9.out HSn.out B9
          · have ds : decide ((0 : Int) < (ss.length : Int)) = false := decide_eq_false (by omega)
            have SD7 : Hid (Sd w7 g1 (w.heap.size + 2) (.slice a2 ss.length c2) ss) := Sd.own hos (by omega) O7 (by decide)
            have fzS : w7.frozen? ⟨g1, i * 4 + 3, none⟩ = false := Y7.frozen
            obtain ⟨WS, hWS, XS, XRS, BS, OS, SS⟩ : ∃ WS, w7.setCell ⟨g1, i * 4 + 3, none⟩ (.slice a2 ss.length c2) = WS ∧ Blk WS w.heap.size #[.int .i64 cnt, .slice (some ⟨g1, 0, none⟩) L.length c1] 28 ∧ Blk WS (w.heap.size + 2) #[.int .i64 0, .slice none 0 0] 28 ∧ Below w.heap.size w WS ∧ WS.ownsRow (w.heap.size + 3) 62 4 (.slice (some ⟨g1, 0, none⟩) L.length c1) (L.set i (⟨q.1.idx, q.1.key, q.1.dat, ss⟩, .slice a2 ss.length c2)).length (ptC (L.set i (⟨q.1.idx, q.1.key, q.1.dat, ss⟩, .slice a2 ss.length c2))) ∧ Hid (Sd WS g1 (w.heap.size + 2) (.slice a2 ss.length c2) (ss)) :=
              ⟨_, rfl, X7.setOther (by simp; omega) _, XR7.setOther (by simp; omega) _, (Off.setCell (b := g1) (Off.refl _ _) (p := ⟨g1, _, none⟩) rfl _).below (by omega) B7 B7.size, by rw [List.length_set, ← ptC_set3 (ss) (.slice a2 ss.length c2) HQ.out]; exact own_setAtM O7 (by omega), Sd.off SD7.out (Off.setCell (b := g1) (Off.refl _ _) (p := ⟨g1, _, none⟩) rfl _) (Or.inl rfl)⟩
            obtain ⟨W9, hW9, R9, hoth9, Z9, ho9⟩ := setRow_named XRS #[.int .i64 cnt, .slice (some ⟨g1, 0, none⟩) L.length c1]
            have c90 : WS.cell? ⟨w.heap.size, 0, none⟩ = some (.int .i64 cnt) := XS.cell rfl
            have c91 : WS.cell? ⟨w.heap.size, 1, none⟩ = some (.slice (some ⟨g1, 0, none⟩) L.length c1) := XS.cell rfl
            have B9 : Below w.heap.size w W9 := below_row BS hW9 (by omega)
            have PR9 : Hid (PR W9 (.slice (some ⟨g1, 0, none⟩) L.length c1) (L.set i (⟨q.1.idx, q.1.key, q.1.dat, ss⟩, .slice a2 ss.length c2))) := PR.set (by rw [← hW9]; exact own_rowM (by rw [List.length_set] at OS ⊢; exact OS) (by omega)) (HPQ.out _ B9) ((have h := HPQ.out _ B9 q HQM.out; ⟨(by rw [← hW9]; exact (Sd.off SS.out ((Off.refl _ _).setRow _) (Or.inr rfl)).1), (fun s hs => h.2.1 s (by rw [hss]; exact hs)), h.2.2.1, h.2.2.2⟩))
            have HSn : Hid (Sm (n + 1) (L.set i (⟨q.1.idx, q.1.key, q.1.dat, ss⟩, .slice a2 ss.length c2))) := Sm.set HSm.out _ (by show List.length (ss) ≤ n + 1; omega)
            go_wp2_with ((with_reducible refine st_row (ty := 28) XRS (infoPf2 _ _) (pfSame _ _ _ _) (pfOne _ _ _ _) hW9 ?_ ?_ ?_); rfl; rfl)
            refine bodyPost_ret (v := .agg #[.int .i64 cnt, .slice (some ⟨g1, 0, none⟩) L.length c1]) (bent_results R9 rfl) rfl ?_
            exact bentP_mk (List.length_set) PR9.out HSn.out B9
        · by_cases hs0 : 0 < ss.length
          · have ds : decide ((0 : Int) < (ss.length : Int)) = true := decide_eq_true (by omega)
            have hk' := hk hs0
            have hkz : (k : Int) < (ss.length : Int) := by omega
            obtain ⟨g2, cap2, eg2, hg2, hcap2, hrow2⟩ := own_at hos hs0
            simp only [Value.slice.injEq, true_and] at eg2
            obtain ⟨rfl, rfl⟩ := eg2
            have h12 : g2 ≠ g1 := fun e => by
              rcases own_twoM hos O7 (by decide) with h3 | h3
              · simp [Value.ownBlock] at h3
              · exact h3 (by simp [Value.ownBlock]; exact e)
            have hcap3 : ss.length ≤ c2 := hcap2
            have z1 : (k : Int) + 1 ≤ (ss.length : Int) := by omega
            have z3 : (ss.length : Int) ≤ (c2 : Int) := by omega
            have z4 : (0 : Int) ≤ (k : Int) + 1 := by omega
            have z5 : ((k : Int) + 1).toNat = k + 1 := by omega
            have z6 : (k : Int) ≤ (c2 : Int) := by omega
            have rwk : IntKind.i64.wrap ((k : Int) + 1) = (k : Int) + 1 := by rw [IntKind.wrap_i64]; omega
            by_cases hce0 : c2 = k + 1
            · have hce : c2 = k + 1 := hce0
              obtain ⟨W8, hrun, lf1, of1⟩ := own_shiftS (w := w7.drew) (own_below hos (Below.refl _ _).drew) rfl k hk' ⟨g2, 0, none⟩ (c2 - (k + 1)) 60 (by omega) (Or.inr (by omega))
              have X8 : Blk W8 w.heap.size #[.int .i64 cnt, .slice (some ⟨g1, 0, none⟩) L.length c1] 28 := X7.drew.off of1 (by omega)
              have XR8 : Blk W8 (w.heap.size + 2) #[.int .i64 0, .slice none 0 0] 28 := XR7.drew.off of1 (by omega)
              have B8 : Below w.heap.size w W8 := of1.below (by omega) B7.drew B7.drew.size
              have O8 : W8.ownsRow (w.heap.size + 3) 62 4 (.slice (some ⟨g1, 0, none⟩) L.length c1) L.length (ptC L) := own_offN (own_below O7 (Below.refl _ _).drew) of1 (Or.inr (by simp [Value.ownBlock]; exact fun e => h12 e.symm))
              obtain ⟨cur8, Y8, _, _, _⟩ := own_blk O8
              have k38 := (own_k3 O8 HQ.out).2.2.2
              have S8 : Hid (Sd W8 g1 (w.heap.size + 2) (.slice (some ⟨g2, 0, none⟩) (ss.length - 1) c2) (ss.eraseIdx k)) := ⟨lf1, fun a n' c e => by injection e with e1 e2 e3; injection e1 with e1; subst e1; exact ⟨h12, show g2 ≠ w.heap.size + 2 by omega⟩⟩
              have HCE : Hid _ := hce
              have HRUN : Hid _ := hrun
              clear hce0 lf1 of1 hrow2 hrun
              clear hce
              go_wp2_with fail
              refine wp_region_any (by kernel_rfl) ?_
              change wpAny _ _ _ _ _ _ _ (World.drew _)
              refine wpAny_take (i := 0) (v := (.slice (some ⟨g2, 0, none⟩) ss.length c2)) rfl (by kernel_rfl) (by kernel_rfl) (by kernel_rfl) (fun _ _ _ h => h) (Or.inl ⟨by rfl, fun w => by go_simp⟩) ?_
              refine wpAny_take (i := 1) (v := (.int .i64 k)) rfl (by kernel_rfl) (by kernel_rfl) (by kernel_rfl) (fun _ _ _ h => h) (Or.inl ⟨by rfl, fun w => by go_simp⟩) ?_
              refine wpAny_take (i := 2) (v := (.slice (some ⟨g2, 0, none⟩) k c2)) rfl (by kernel_rfl) (by kernel_rfl) (by kernel_rfl) (fun _ _ _ h => h) (Or.inl ⟨by rfl, fun w => by go_simp; first | done | (intro h; omega) | (rw [if_neg (by omega)])⟩) ?_
              refine wpAny_take (i := 3) (v := (.slice (some ⟨g2, 0, none⟩) ss.length c2)) rfl (by kernel_rfl) (by kernel_rfl) (by kernel_rfl) (fun _ _ _ h => h) (Or.inl ⟨by rfl, fun w => by go_simp⟩) ?_
              refine wpAny_take (i := 4) (v := (.int .i64 k)) rfl (by kernel_rfl) (by kernel_rfl) (by kernel_rfl) (fun _ _ _ h => h) (Or.inl ⟨by rfl, fun w => by go_simp⟩) ?_
              refine wpAny_take (i := 5) (v := (.int .i64 ((k : Int) + 1))) rfl (by kernel_rfl) (by kernel_rfl) (by kernel_rfl) (fun _ _ _ h => h) (Or.inl ⟨by rfl, fun w => by go_simp; first | done | exact rwk⟩) ?_
              refine wpAny_take (i := 6) (v := (.slice (some ⟨g2, 0, none⟩) (ss.length - (k + 1)) (c2 - (k + 1)))) rfl (by kernel_rfl) (by kernel_rfl) (by kernel_rfl) (fun _ _ _ h => h) (Or.inl ⟨by rfl, fun w => by go_simp; have hce := HCE.out; first | done | exact hce | (intro h; omega) | omega | (rw [if_neg hce])⟩) ?_
              refine wpAny_ready (rs := [7]) (by kernel_rfl) (by simp) ?_
              refine AllReady.cons rfl (fun K hK => ?_) AllReady.nil
              refine step_ifM rfl ?_
              refine wp_append_runM (.tmp 93) (.tmp 97) 60 (by kernel_rfl) (.slice (some ⟨g2, 0, none⟩) k c2) (.slice (some ⟨g2, 0, none⟩) (ss.length - (k + 1)) (c2 - (k + 1))) (by kernel_rfl) (by kernel_rfl) (v' := .slice (some ⟨g2, 0, none⟩) (ss.length - 1) c2) (w' := W8) ?_ ?_
              · exact HRUN.out
              refine hK _ _ ?_
              clear hK
              refine wpAny_ready (rs := [8]) (by kernel_rfl) (by simp) ?_
              refine AllReady.cons rfl (fun K hK => ?_) AllReady.nil
              go_simp
              refine hK _ _ ?_
              clear hK
              refine wpAny_done (by kernel_rfl) ?_ _
              clear HRUN
              have fzS : W8.frozen? ⟨g1, i * 4 + 3, none⟩ = false := Y8.frozen
              obtain ⟨WS, hWS, XS, XRS, BS, OS, SS⟩ : ∃ WS, W8.setCell ⟨g1, i * 4 + 3, none⟩ (.slice (some ⟨g2, 0, none⟩) (ss.length - 1) c2) = WS ∧ Blk WS w.heap.size #[.int .i64 cnt, .slice (some ⟨g1, 0, none⟩) L.length c1] 28 ∧ Blk WS (w.heap.size + 2) #[.int .i64 0, .slice none 0 0] 28 ∧ Below w.heap.size w WS ∧ WS.ownsRow (w.heap.size + 3) 62 4 (.slice (some ⟨g1, 0, none⟩) L.length c1) (L.set i (⟨q.1.idx, q.1.key, q.1.dat, ss.eraseIdx k⟩, .slice (some ⟨g2, 0, none⟩) (ss.length - 1) c2)).length (ptC (L.set i (⟨q.1.idx, q.1.key, q.1.dat, ss.eraseIdx k⟩, .slice (some ⟨g2, 0, none⟩) (ss.length - 1) c2))) ∧ Hid (Sd WS g1 (w.heap.size + 2) (.slice (some ⟨g2, 0, none⟩) (ss.length - 1) c2) (ss.eraseIdx k)) :=
                ⟨_, rfl, X8.setOther (by simp; omega) _, XR8.setOther (by simp; omega) _, (Off.setCell (b := g1) (Off.refl _ _) (p := ⟨g1, _, none⟩) rfl _).below (by omega) B8 B8.size, by rw [List.length_set, ← ptC_set3 (ss.eraseIdx k) (.slice (some ⟨g2, 0, none⟩) (ss.length - 1) c2) HQ.out]; exact own_setAtM O8 (by omega), Sd.off S8.out (Off.setCell (b := g1) (Off.refl _ _) (p := ⟨g1, _, none⟩) rfl _) (Or.inl rfl)⟩
              obtain ⟨W9, hW9, R9, hoth9, Z9, ho9⟩ := setRow_named XRS #[.int .i64 cnt, .slice (some ⟨g1, 0, none⟩) L.length c1]
              have c90 : WS.cell? ⟨w.heap.size, 0, none⟩ = some (.int .i64 cnt) := XS.cell rfl
              have c91 : WS.cell? ⟨w.heap.size, 1, none⟩ = some (.slice (some ⟨g1, 0, none⟩) L.length c1) := XS.cell rfl
              have B9 : Below w.heap.size w W9 := below_row BS hW9 (by omega)
              have PR9 : Hid (PR W9 (.slice (some ⟨g1, 0, none⟩) L.length c1) (L.set i (⟨q.1.idx, q.1.key, q.1.dat, ss.eraseIdx k⟩, .slice (some ⟨g2, 0, none⟩) (ss.length - 1) c2))) := PR.set (by rw [← hW9]; exact own_rowM (by rw [List.length_set] at OS ⊢; exact OS) (by omega)) (HPQ.out _ B9) ((have h := HPQ.out _ B9 q HQM.out; ⟨(by rw [← hW9]; exact (Sd.off SS.out ((Off.refl _ _).setRow _) (Or.inr rfl)).1), (fun s hs => h.2.1 s (by rw [hss]; exact List.mem_of_mem_eraseIdx hs)), h.2.2.1, h.2.2.2⟩))
              have HSn : Hid (Sm (n + 1) (L.set i (⟨q.1.idx, q.1.key, q.1.dat, ss.eraseIdx k⟩, .slice (some ⟨g2, 0, none⟩) (ss.length - 1) c2))) := Sm.set HSm.out _ (by show List.length (ss.eraseIdx k) ≤ n + 1; rw [List.length_eraseIdx_of_lt hk']; omega)
              go_wp2_with ((with_reducible refine st_row (ty := 28) XRS (infoPf2 _ _) (pfSame _ _ _ _) (pfOne _ _ _ _) hW9 ?_ ?_ ?_); rfl; rfl)
              refine bodyPost_ret (v := .agg #[.int .i64 cnt, .slice (some ⟨g1, 0, none⟩) L.length c1]) (bent_results R9 rfl) rfl ?_
              exact bentP_mk (List.length_set) PR9.out HSn.out B9
            · obtain ⟨W8, hrun, lf1, of1⟩ := own_shiftS (w := w7.drew) (own_below hos (Below.refl _ _).drew) rfl k hk' ⟨g2, k + 1, none⟩ (c2 - (k + 1)) 60 (by omega) (Or.inl rfl)
              have X8 : Blk W8 w.heap.size #[.int .i64 cnt, .slice (some ⟨g1, 0, none⟩) L.length c1] 28 := X7.drew.off of1 (by omega)
              have XR8 : Blk W8 (w.heap.size + 2) #[.int .i64 0, .slice none 0 0] 28 := XR7.drew.off of1 (by omega)
              have B8 : Below w.heap.size w W8 := of1.below (by omega) B7.drew B7.drew.size
              have O8 : W8.ownsRow (w.heap.size + 3) 62 4 (.slice (some ⟨g1, 0, none⟩) L.length c1) L.length (ptC L) := own_offN (own_below O7 (Below.refl _ _).drew) of1 (Or.inr (by simp [Value.ownBlock]; exact fun e => h12 e.symm))
              obtain ⟨cur8, Y8, _, _, _⟩ := own_blk O8
              have k38 := (own_k3 O8 HQ.out).2.2.2
              have S8 : Hid (Sd W8 g1 (w.heap.size + 2) (.slice (some ⟨g2, 0, none⟩) (ss.length - 1) c2) (ss.eraseIdx k)) := ⟨lf1, fun a n' c e => by injection e with e1 e2 e3; injection e1 with e1; subst e1; exact ⟨h12, show g2 ≠ w.heap.size + 2 by omega⟩⟩
              have HCE : Hid _ := hce0
              have HRUN : Hid _ := hrun
              clear hce0 lf1 of1 hrow2 hrun
              go_wp2_with fail
              refine wp_region_any (by kernel_rfl) ?_
              change wpAny _ _ _ _ _ _ _ (World.drew _)
              refine wpAny_take (i := 0) (v := (.slice (some ⟨g2, 0, none⟩) ss.length c2)) rfl (by kernel_rfl) (by kernel_rfl) (by kernel_rfl) (fun _ _ _ h => h) (Or.inl ⟨by rfl, fun w => by go_simp⟩) ?_
              refine wpAny_take (i := 1) (v := (.int .i64 k)) rfl (by kernel_rfl) (by kernel_rfl) (by kernel_rfl) (fun _ _ _ h => h) (Or.inl ⟨by rfl, fun w => by go_simp⟩) ?_
              refine wpAny_take (i := 2) (v := (.slice (some ⟨g2, 0, none⟩) k c2)) rfl (by kernel_rfl) (by kernel_rfl) (by kernel_rfl) (fun _ _ _ h => h) (Or.inl ⟨by rfl, fun w => by go_simp; first | done | (intro h; omega) | (rw [if_neg (by omega)])⟩) ?_
              refine wpAny_take (i := 3) (v := (.slice (some ⟨g2, 0, none⟩) ss.length c2)) rfl (by kernel_rfl) (by kernel_rfl) (by kernel_rfl) (fun _ _ _ h => h) (Or.inl ⟨by rfl, fun w => by go_simp⟩) ?_
              refine wpAny_take (i := 4) (v := (.int .i64 k)) rfl (by kernel_rfl) (by kernel_rfl) (by kernel_rfl) (fun _ _ _ h => h) (Or.inl ⟨by rfl, fun w => by go_simp⟩) ?_
              refine wpAny_take (i := 5) (v := (.int .i64 ((k : Int) + 1))) rfl (by kernel_rfl) (by kernel_rfl) (by kernel_rfl) (fun _ _ _ h => h) (Or.inl ⟨by rfl, fun w => by go_simp; first | done | exact rwk⟩) ?_
              refine wpAny_take (i := 6) (v := (.slice (some ⟨g2, k + 1, none⟩) (ss.length - (k + 1)) (c2 - (k + 1)))) rfl (by kernel_rfl) (by kernel_rfl) (by kernel_rfl) (fun _ _ _ h => h) (Or.inl ⟨by rfl, fun w => by go_simp; have hce := HCE.out; first | done | exact hce | (intro h; omega) | omega | (rw [if_neg hce])⟩) ?_
              refine wpAny_ready (rs := [7]) (by kernel_rfl) (by simp) ?_
              refine AllReady.cons rfl (fun K hK => ?_) AllReady.nil
              refine step_ifM rfl ?_
              refine wp_append_runM (.tmp 93) (.tmp 97) 60 (by kernel_rfl) (.slice (some ⟨g2, 0, none⟩) k c2) (.slice (some ⟨g2, k + 1, none⟩) (ss.length - (k + 1)) (c2 - (k + 1))) (by kernel_rfl) (by kernel_rfl) (v' := .slice (some ⟨g2, 0, none⟩) (ss.length - 1) c2) (w' := W8) ?_ ?_
              · exact HRUN.out
              refine hK _ _ ?_
              clear hK
              refine wpAny_ready (rs := [8]) (by kernel_rfl) (by simp) ?_
              refine AllReady.cons rfl (fun K hK => ?_) AllReady.nil
              go_simp
              refine hK _ _ ?_
              clear hK
              refine wpAny_done (by kernel_rfl) ?_ _
              clear HRUN
              have fzS : W8.frozen? ⟨g1, i * 4 + 3, none⟩ = false := Y8.frozen
              obtain ⟨WS, hWS, XS, XRS, BS, OS, SS⟩ : ∃ WS, W8.setCell ⟨g1, i * 4 + 3, none⟩ (.slice (some ⟨g2, 0, none⟩) (ss.length - 1) c2) = WS ∧ Blk WS w.heap.size #[.int .i64 cnt, .slice (some ⟨g1, 0, none⟩) L.length c1] 28 ∧ Blk WS (w.heap.size + 2) #[.int .i64 0, .slice none 0 0] 28 ∧ Below w.heap.size w WS ∧ WS.ownsRow (w.heap.size + 3) 62 4 (.slice (some ⟨g1, 0, none⟩) L.length c1) (L.set i (⟨q.1.idx, q.1.key, q.1.dat, ss.eraseIdx k⟩, .slice (some ⟨g2, 0, none⟩) (ss.length - 1) c2)).length (ptC (L.set i (⟨q.1.idx, q.1.key, q.1.dat, ss.eraseIdx k⟩, .slice (some ⟨g2, 0, none⟩) (ss.length - 1) c2))) ∧ Hid (Sd WS g1 (w.heap.size + 2) (.slice (some ⟨g2, 0, none⟩) (ss.length - 1) c2) (ss.eraseIdx k)) :=
                ⟨_, rfl, X8.setOther (by simp; omega) _, XR8.setOther (by simp; omega) _, (Off.setCell (b := g1) (Off.refl _ _) (p := ⟨g1, _, none⟩) rfl _).below (by omega) B8 B8.size, by rw [List.length_set, ← ptC_set3 (ss.eraseIdx k) (.slice (some ⟨g2, 0, none⟩) (ss.length - 1) c2) HQ.out]; exact own_setAtM O8 (by omega), Sd.off S8.out (Off.setCell (b := g1) (Off.refl _ _) (p := ⟨g1, _, none⟩) rfl _) (Or.inl rfl)⟩
              obtain ⟨W9, hW9, R9, hoth9, Z9, ho9⟩ := setRow_named XRS #[.int .i64 cnt, .slice (some ⟨g1, 0, none⟩) L.length c1]
              have c90 : WS.cell? ⟨w.heap.size, 0, none⟩ = some (.int .i64 cnt) := XS.cell rfl
              have c91 : WS.cell? ⟨w.heap.size, 1, none⟩ = some (.slice (some ⟨g1, 0, none⟩) L.length c1) := XS.cell rfl
              have B9 : Below w.heap.size w W9 := below_row BS hW9 (by omega)
              have PR9 : Hid (PR W9 (.slice (some ⟨g1, 0, none⟩) L.length c1) (L.set i (⟨q.1.idx, q.1.key, q.1.dat, ss.eraseIdx k⟩, .slice (some ⟨g2, 0, none⟩) (ss.length - 1) c2))) := PR.set (by rw [← hW9]; exact own_rowM (by rw [List.length_set] at OS ⊢; exact OS) (by omega)) (HPQ.out _ B9) ((have h := HPQ.out _ B9 q HQM.out; ⟨(by rw [← hW9]; exact (Sd.off SS.out ((Off.refl _ _).setRow _) (Or.inr rfl)).1), (fun s hs => h.2.1 s (by rw [hss]; exact List.mem_of_mem_eraseIdx hs)), h.2.2.1, h.2.2.2⟩))
              have HSn : Hid (Sm (n + 1) (L.set i (⟨q.1.idx, q.1.key, q.1.dat, ss.eraseIdx k⟩, .slice (some ⟨g2, 0, none⟩) (ss.length - 1) c2))) := Sm.set HSm.out _ (by show List.length (ss.eraseIdx k) ≤ n + 1; rw [List.length_eraseIdx_of_lt hk']; omega)
              go_wp2_with ((with_reducible refine st_row (ty := 28) XRS (infoPf2 _ _) (pfSame _ _ _ _) (pfOne _ _ _ _) hW9 ?_ ?_ ?_); rfl; rfl)
              refine bodyPost_ret (v := .agg #[.int .i64 cnt, .slice (some ⟨g1, 0, none⟩) L.length c1]) (bent_results R9 rfl) rfl ?_
              exact bentP_mk (List.length_set) PR9.out HSn.out B9
          · have ds : decide ((0 : Int) < (ss.length : Int)) = false := decide_eq_false (by omega)
            have SD7 : Hid (Sd w7 g1 (w.heap.size + 2) (.slice a2 ss.length c2) ss) := Sd.own hos (by omega) O7 (by decide)
            have fzS : w7.frozen? ⟨g1, i * 4 + 3, none⟩ = false := Y7.frozen
            obtain ⟨WS, hWS, XS, XRS, BS, OS, SS⟩ : ∃ WS, w7.setCell ⟨g1, i * 4 + 3, none⟩ (.slice a2 ss.length c2) = WS ∧ Blk WS w.heap.size #[.int .i64 cnt, .slice (some ⟨g1, 0, none⟩) L.length c1] 28 ∧ Blk WS (w.heap.size + 2) #[.int .i64 0, .slice none 0 0] 28 ∧ Below w.heap.size w WS ∧ WS.ownsRow (w.heap.size + 3) 62 4 (.slice (some ⟨g1, 0, none⟩) L.length c1) (L.set i (⟨q.1.idx, q.1.key, q.1.dat, ss⟩, .slice a2 ss.length c2)).length (ptC (L.set i (⟨q.1.idx, q.1.key, q.1.dat, ss⟩, .slice a2 ss.length c2))) ∧ Hid (Sd WS g1 (w.heap.size + 2) (.slice a2 ss.length c2) (ss)) :=
              ⟨_, rfl, X7.setOther (by simp; omega) _, XR7.setOther (by simp; omega) _, (Off.setCell (b := g1) (Off.refl _ _) (p := ⟨g1, _, none⟩) rfl _).below (by omega) B7 B7.size, by rw [List.length_set, ← ptC_set3 (ss) (.slice a2 ss.length c2) HQ.out]; exact own_setAtM O7 (by omega), Sd.off SD7.out (Off.setCell (b := g1) (Off.refl _ _) (p := ⟨g1, _, none⟩) rfl _) (Or.inl rfl)⟩
            obtain ⟨W9, hW9, R9, hoth9, Z9, ho9⟩ := setRow_named XRS #[.int .i64 cnt, .slice (some ⟨g1, 0, none⟩) L.length c1]
            have c90 : WS.cell? ⟨w.heap.size, 0, none⟩ = some (.int .i64 cnt) := XS.cell rfl
            have c91 : WS.cell? ⟨w.heap.size, 1, none⟩ = some (.slice (some ⟨g1, 0, none⟩) L.length c1) := XS.cell rfl
            have B9 : Below w.heap.size w W9 := below_row BS hW9 (by omega)
            have PR9 : Hid (PR W9 (.slice (some ⟨g1, 0, none⟩) L.length c1) (L.set i (⟨q.1.idx, q.1.key, q.1.dat, ss⟩, .slice a2 ss.length c2))) := PR.set (by rw [← hW9]; exact own_rowM (by rw [List.length_set] at OS ⊢; exact OS) (by omega)) (HPQ.out _ B9) ((have h := HPQ.out _ B9 q HQM.out; ⟨(by rw [← hW9]; exact (Sd.off SS.out ((Off.refl _ _).setRow _) (Or.inr rfl)).1), (fun s hs => h.2.1 s (by rw [hss]; exact hs)), h.2.2.1, h.2.2.2⟩))
            have HSn : Hid (Sm (n + 1) (L.set i (⟨q.1.idx, q.1.key, q.1.dat, ss⟩, .slice a2 ss.length c2))) := Sm.set HSm.out _ (by show List.length (ss) ≤ n + 1; omega)
            go_wp2_with ((with_reducible refine st_row (ty := 28) XRS (infoPf2 _ _) (pfSame _ _ _ _) (pfOne _ _ _ _) hW9 ?_ ?_ ?_); rfl; rfl)
            refine bodyPost_ret (v := .agg #[.int .i64 cnt, .slice (some ⟨g1, 0, none⟩) L.length c1]) (bent_results R9 rfl) rfl ?_
            exact bentP_mk (List.length_set) PR9.out HSn.out B9
        · obtain ⟨i0, hi_, hi0, hi1, hi2⟩ := info_parts infoStr
          go_wp2_with (at_builtin; refine wpList_append_own _ rfl _ _ 60 rfl (w.heap.size + 3) 9 i0 (.string ⟨#[]⟩) 1 16 Try.underlying60 hi_ hi0 hi1 hi2 rfl (by decide) _ _ _ rfl (hos.alloc _) ⟨w7.heap.size, 0, none⟩ 1 1 [.string tx] rfl rfl ?d1 ?d2 ?d3 ?d4 ?d5 ?_)
          case d1 => exact cell_one_new _ _ _
          case d2 => intro u hu; simp at hu; subst hu; rfl
          case d3 => unfold maxLen; omega
          case d4 => omega
          case d5 => simp; omega
          intro v' w8 hown' hgrow _
          obtain ⟨a3, c3, rfl⟩ := own_sliceM hown'
          have zg := hgrow.size
          simp at zg
          have X8 : Blk w8 w.heap.size #[.int .i64 cnt, .slice (some ⟨g1, 0, none⟩) L.length c1] 28 := (hgrow.block w.heap.size (by simp; omega) (fun e => by have := (hos.lt _ e.symm).1; omega)).trans (X7.alloc _)
          have XR8 : Blk w8 (w.heap.size + 2) #[.int .i64 0, .slice none 0 0] 28 := (hgrow.block (w.heap.size + 2) (by simp; omega) (fun e => by have := (hos.lt _ e.symm).1; omega)).trans (XR7.alloc _)
          have B8 : Below w.heap.size w w8 := below_grown (B7.alloc (by omega) _) hgrow (fun k hk => by have := (hos.lt k hk).1; omega) (by simp; omega)
          have O8 : w8.ownsRow (w.heap.size + 3) 62 4 (.slice (some ⟨g1, 0, none⟩) L.length c1) L.length (ptC L) := (O7.alloc (.cells #[.string tx] 9)).kept hgrow (own_twoM (O7.alloc _) (hos.alloc (.cells #[.string tx] 9)) (by decide))
          obtain ⟨cur8, Y8, _, _, _⟩ := own_blk O8
          have k38 := (own_k3 O8 HQ.out).2.2.2
          have S8 : Hid (Sd w8 g1 (w.heap.size + 2) (.slice a3 (ss.length + 1) c3) (ss ++ [tx])) := Sd.own (base := w.heap.size + 3) (by rw [List.length_append, txC_snoc]; exact hown') (by omega) O8 (by decide)
          clear hown' hgrow
          have fzS : w8.frozen? ⟨g1, i * 4 + 3, none⟩ = false := Y8.frozen
          obtain ⟨WS, hWS, XS, XRS, BS, OS, SS⟩ : ∃ WS, w8.setCell ⟨g1, i * 4 + 3, none⟩ (.slice a3 (ss.length + 1) c3) = WS ∧ Blk WS w.heap.size #[.int .i64 cnt, .slice (some ⟨g1, 0, none⟩) L.length c1] 28 ∧ Blk WS (w.heap.size + 2) #[.int .i64 0, .slice none 0 0] 28 ∧ Below w.heap.size w WS ∧ WS.ownsRow (w.heap.size + 3) 62 4 (.slice (some ⟨g1, 0, none⟩) L.length c1) (L.set i (⟨q.1.idx, q.1.key, q.1.dat, ss ++ [tx]⟩, .slice a3 (ss.length + 1) c3)).length (ptC (L.set i (⟨q.1.idx, q.1.key, q.1.dat, ss ++ [tx]⟩, .slice a3 (ss.length + 1) c3))) ∧ Hid (Sd WS g1 (w.heap.size + 2) (.slice a3 (ss.length + 1) c3) (ss ++ [tx])) :=
            ⟨_, rfl, X8.setOther (by simp; omega) _, XR8.setOther (by simp; omega) _, (Off.setCell (b := g1) (Off.refl _ _) (p := ⟨g1, _, none⟩) rfl _).below (by omega) B8 B8.size, by rw [List.length_set, ← ptC_set3 (ss ++ [tx]) (.slice a3 (ss.length + 1) c3) HQ.out]; exact own_setAtM O8 (by omega), Sd.off S8.out (Off.setCell (b := g1) (Off.refl _ _) (p := ⟨g1, _, none⟩) rfl _) (Or.inl rfl)⟩
          obtain ⟨W9, hW9, R9, hoth9, Z9, ho9⟩ := setRow_named XRS #[.int .i64 cnt, .slice (some ⟨g1, 0, none⟩) L.length c1]
          have c90 : WS.cell? ⟨w.heap.size, 0, none⟩ = some (.int .i64 cnt) := XS.cell rfl
          have c91 : WS.cell? ⟨w.heap.size, 1, none⟩ = some (.slice (some ⟨g1, 0, none⟩) L.length c1) := XS.cell rfl
          have B9 : Below w.heap.size w W9 := below_row BS hW9 (by omega)
          have PR9 : Hid (PR W9 (.slice (some ⟨g1, 0, none⟩) L.length c1) (L.set i (⟨q.1.idx, q.1.key, q.1.dat, ss ++ [tx]⟩, .slice a3 (ss.length + 1) c3))) := PR.set (by rw [← hW9]; exact own_rowM (by rw [List.length_set] at OS ⊢; exact OS) (by omega)) (HPQ.out _ B9) ((have h := HPQ.out _ B9 q HQM.out; ⟨(by rw [← hW9]; exact (Sd.off SS.out ((Off.refl _ _).setRow _) (Or.inr rfl)).1), (fun s hs => by rcases List.mem_append.1 hs with h1 | h1; exact h.2.1 s (by rw [hss]; exact h1); simp only [List.mem_singleton] at h1; subst h1; exact htx), h.2.2.1, h.2.2.2⟩))
          have HSn : Hid (Sm (n + 1) (L.set i (⟨q.1.idx, q.1.key, q.1.dat, ss ++ [tx]⟩, .slice a3 (ss.length + 1) c3))) := Sm.set HSm.out _ (by show List.length (ss ++ [tx]) ≤ n + 1; rw [List.length_append]; simp; omega)
          go_wp2_with ((with_reducible refine st_row (ty := 28) XRS (infoPf2 _ _) (pfSame _ _ _ _) (pfOne _ _ _ _) hW9 ?_ ?_ ?_); rfl; rfl)
          refine bodyPost_ret (v := .agg #[.int .i64 cnt, .slice (some ⟨g1, 0, none⟩) L.length c1]) (bent_results R9 rfl) rfl ?_
          exact bentP_mk (List.length_set) PR9.out HSn.out B9
        · have n1 : (0 : Int) ≤ (L.length : Int) - 1 := by omega
          have n2 : ((L.length : Int) - 1).toNat = L.length - 1 := by omega
          have n3 : (L.length : Int) - 1 ≤ (c1 : Int) := by omega
          have n4 : IntKind.i64.wrap ((L.length : Int) - 1) = (L.length : Int) - 1 := by rw [IntKind.wrap_i64]; omega
          have fz : w7.frozen? ⟨w.heap.size, 1, none⟩ = false := X7.frozen
          have p7 : w7.cell? ⟨w.heap.size, 1, none⟩ = some (.slice (some ⟨g1, 0, none⟩) L.length c1) := X7.cell rfl
          obtain ⟨W8, hW8, X8, XR8, B8, O8⟩ : ∃ W8, w7.setCell ⟨w.heap.size, 1, none⟩ (.slice (some ⟨g1, 0, none⟩) (L.length - 1) c1) = W8 ∧ Blk W8 w.heap.size #[.int .i64 cnt, .slice (some ⟨g1, 0, none⟩) (L.length - 1) c1] 28 ∧ Blk W8 (w.heap.size + 2) #[.int .i64 0, .slice none 0 0] 28 ∧ Below w.heap.size w W8 ∧ W8.ownsRow (w.heap.size + 3) 62 4 (.slice (some ⟨g1, 0, none⟩) L.length c1) L.length (ptC L) :=
            ⟨_, rfl, X7.set 1 _, XR7.setOther (by simp) _, (Off.setCell (b := w.heap.size) (Off.refl _ _) (p := ⟨w.heap.size, _, none⟩) rfl _).below (by omega) B7 B7.size, own_setM O7 (by omega)⟩
          obtain ⟨W9, hW9, R9, hoth9, Z9, ho9⟩ := setRow_named XR8 #[.int .i64 cnt, .slice (some ⟨g1, 0, none⟩) (L.length - 1) c1]
          have c90 : W8.cell? ⟨w.heap.size, 0, none⟩ = some (.int .i64 cnt) := X8.cell rfl
          have c91 : W8.cell? ⟨w.heap.size, 1, none⟩ = some (.slice (some ⟨g1, 0, none⟩) (L.length - 1) c1) := X8.cell rfl
          have B9 : Below w.heap.size w W9 := below_row B8 hW9 (by omega)
          have PR9 : Hid (PR W9 (.slice (some ⟨g1, 0, none⟩) (L.length - 1) c1) (L.take (L.length - 1))) := PR.cut (PR.own (by rw [← hW9]; exact own_rowM O8 (by omega)) (HPQ.out _ B9)) (by omega)
          have HSn : Hid (Sm (n + 1) (L.take (L.length - 1))) := ⟨by rw [List.length_take]; omega, fun r hr => by have := HSm.out.2 r (List.mem_of_mem_take hr); omega⟩
          go_wp2_with ((with_reducible refine st_row (ty := 28) XR8 (infoPf2 _ _) (pfSame _ _ _ _) (pfOne _ _ _ _) hW9 ?_ ?_ ?_); rfl; rfl)
          refine bodyPost_ret (v := .agg #[.int .i64 cnt, .slice (some ⟨g1, 0, none⟩) (L.length - 1) c1]) (bent_results R9 rfl) rfl ?_
          exact bentP_mk (by rw [List.length_take]; omega) PR9.out HSn.out B9
        · obtain ⟨iP, hi_, hi0, hi1, hi2⟩ := info_parts infoPath3
          obtain ⟨q0, hq0⟩ : ∃ q0, L[0]? = some q0 := ⟨L[0]'(by omega), List.getElem?_eq_getElem (by omega)⟩
          have HQ0 : Hid (q0 ∈ L) := List.mem_of_getElem? hq0
          obtain ⟨m0, m1, m2, m3⟩ := own_k3 O7 hq0
          obtain ⟨sa0, sc0, hsv0⟩ : ∃ sa sc, q0.2 = .slice sa q0.1.sides.length sc := by obtain ⟨a, c, e, _⟩ := (HPQ.out _ B7 q0 HQ0.out).1; exact ⟨a, c, e⟩
          simp only [Nat.zero_mul, Nat.zero_add] at m0 m1 m2 m3
          rw [hsv0] at m3
          have HP0 : Hid (ptC (L ++ [q0]) = ptC L ++ [.int .i64 q0.1.idx, .string q0.1.key, .string q0.1.dat, .slice sa0 q0.1.sides.length sc0]) := by show _ = _; rw [ptC_append, ← hsv0]; simp [ptC]
          have hL1 : (0 : Int) < (L.length : Int) := by omega
          have O7d : w7.drew.ownsRow (w.heap.size + 3) 62 4 (.slice (some ⟨g1, 0, none⟩) L.length c1) L.length (ptC L) := own_below O7 (Below.refl _ _).drew
          have p7 : w7.cell? ⟨w.heap.size, 1, none⟩ = some (.slice (some ⟨g1, 0, none⟩) L.length c1) := X7.cell rfl
          clear hq0 hsv0
          go_wp2_with fail
          refine wp_region_any (by kernel_rfl) ?_
          change wpAny _ _ _ _ _ _ _ (World.drew _)
          refine wpAny_take (i := 0) (v := (.pointer (some ⟨w.heap.size, 1, none⟩))) rfl (by kernel_rfl) (by kernel_rfl) (by kernel_rfl) (fun _ _ _ h => h) (Or.inl ⟨by rfl, fun w => by go_simp⟩) ?_
          refine wpAny_take (i := 2) (v := (.slice (some ⟨g1, 0, none⟩) L.length c1)) rfl (by kernel_rfl) (by kernel_rfl) (by kernel_rfl) (fun _ _ _ h => h) (Or.inl ⟨by rfl, fun w => by go_simp⟩) ?_
          refine wpAny_take (i := 3) (v := (.pointer (some ⟨g1, 0, none⟩))) rfl (by kernel_rfl) (by kernel_rfl) (by kernel_rfl) (fun _ _ _ h => h) (Or.inl ⟨by rfl, fun w => by go_simp⟩) ?_
          refine wpAny_ready (rs := [1, 4]) (by kernel_rfl) (by simp) ?_
          refine AllReady.cons rfl (fun K hK => ?_) (AllReady.cons rfl (fun K hK => ?_) AllReady.nil)
          · go_simp
            refine hK _ _ ?_
            clear hK
            refine wpAny_ready (rs := [4]) (by kernel_rfl) (by simp) ?_
            refine AllReady.cons rfl (fun K hK => ?_) AllReady.nil
            go_simp
            refine hK _ _ ?_
            clear hK
            refine wpAny_ready (rs := [5]) (by kernel_rfl) (by simp) ?_
            refine AllReady.cons rfl (fun K hK => ?_) AllReady.nil
            go_simp
            refine hK _ _ ?_
            clear hK
            have c6 : (w7.drew.alloc (.cells #[.int .i64 q0.1.idx, .string q0.1.key, .string q0.1.dat, .slice sa0 q0.1.sides.length sc0] 62)).cell? ⟨w.heap.size, 1, none⟩ = some (.slice (some ⟨g1, 0, none⟩) L.length c1) := (X7.drew.alloc _).cell rfl
            have c6' : (w7.alloc (.cells #[.int .i64 q0.1.idx, .string q0.1.key, .string q0.1.dat, .slice sa0 q0.1.sides.length sc0] 62)).cell? ⟨w.heap.size, 1, none⟩ = some (.slice (some ⟨g1, 0, none⟩) L.length c1) := (X7.alloc _).cell rfl
            refine wpAny_ready (rs := [6]) (by kernel_rfl) (by simp) ?_
            refine AllReady.cons rfl (fun K hK => ?_) AllReady.nil
            refine step_ifM rfl ?_
            refine wp_append_own _ (.tmp 117) (.tmp 121) 26 (by kernel_rfl) (w.heap.size + 3) 62 iP (.agg #[.int .i64 0, .string ⟨#[]⟩, .string ⟨#[]⟩, .slice none 0 0]) 4 64 Try.underlying26 hi_ hi0 hi1 hi2 rfl (by decide) (.slice (some ⟨g1, 0, none⟩) L.length c1) L.length (ptC L) (by kernel_rfl) (O7d.alloc _) ⟨w7.heap.size, 0, none⟩ 1 1 [.int .i64 q0.1.idx, .string q0.1.key, .string q0.1.dat, .slice sa0 q0.1.sides.length sc0] (by kernel_rfl) rfl ?_ ?_ ?_ ?_ ?_ ?_
            · intro j u hj
              rw [Addr.add_mid, Nat.zero_add]
              exact (blk_new w7.drew w7.heap.size _ _ rfl).cell (by simpa using hj)
            · intro u hu
              simp at hu
              rcases hu with rfl | rfl | rfl | rfl <;> rfl
            · unfold maxLen; omega
            · omega
            · simp; omega
            intro v' w8 hown' hgrow _
            obtain ⟨a3, c3, rfl⟩ := own_sliceM hown'
            have zg := hgrow.size
            simp at zg
            have X8 : Blk w8 w.heap.size #[.int .i64 cnt, .slice (some ⟨g1, 0, none⟩) L.length c1] 28 := (hgrow.block w.heap.size (by simp; omega) (fun e => by have := (O7d.lt _ e.symm).1; omega)).trans (X7.drew.alloc _)
            have XR8 : Blk w8 (w.heap.size + 2) #[.int .i64 0, .slice none 0 0] 28 := (hgrow.block (w.heap.size + 2) (by simp; omega) (fun e => by have := (O7d.lt _ e.symm).1; omega)).trans (XR7.drew.alloc _)
            have B8 : Below w.heap.size w w8 := below_grown (B7.drew.alloc (show w.heap.size ≤ w7.drew.heap.size from by show w.heap.size ≤ w7.heap.size; omega) _) hgrow (fun k hk => by have := (O7d.lt k hk).1; omega) (by simp; omega)
            have f8 : w8.frozen? ⟨w.heap.size, 1, none⟩ = false := X8.frozen
            have p8 : w8.cell? ⟨w.heap.size, 1, none⟩ = some (.slice (some ⟨g1, 0, none⟩) L.length c1) := X8.cell rfl
            clear hgrow
            refine hK _ _ ?_
            clear hK
            refine wpAny_ready (rs := [7]) (by kernel_rfl) (by simp) ?_
            refine AllReady.cons rfl (fun K hK => ?_) AllReady.nil
            go_simp
            refine hK _ _ ?_
            clear hK
            refine wpAny_ready (rs := [8]) (by kernel_rfl) (by simp) ?_
            refine AllReady.cons rfl (fun K hK => ?_) AllReady.nil
            go_simp
            refine hK _ _ ?_
            clear hK
            refine wpAny_done (by kernel_rfl) ?_ _
            obtain ⟨WT, hWT, XT, XRT, BT, OT⟩ : ∃ WT, w8.setCell ⟨w.heap.size, 1, none⟩ (.slice a3 (L.length + 1) c3) = WT ∧ Blk WT w.heap.size #[.int .i64 cnt, .slice a3 (L.length + 1) c3] 28 ∧ Blk WT (w.heap.size + 2) #[.int .i64 0, .slice none 0 0] 28 ∧ Below w.heap.size w WT ∧ WT.ownsRow (w.heap.size + 3) 62 4 (.slice a3 (L.length + 1) c3) (L ++ [q0]).length (ptC (L ++ [q0])) :=
              ⟨_, rfl, X8.set 1 _, XR8.setOther (by simp) _, (Off.setCell (b := w.heap.size) (Off.refl _ _) (p := ⟨w.heap.size, _, none⟩) rfl _).below (by omega) B8 B8.size, by rw [List.length_append, HP0.out]; exact own_setM hown' (by omega)⟩
            clear hown'
            obtain ⟨W9, hW9, R9, hoth9, Z9, ho9⟩ := setRow_named XRT #[.int .i64 cnt, .slice a3 (L.length + 1) c3]
            have c90 : WT.cell? ⟨w.heap.size, 0, none⟩ = some (.int .i64 cnt) := XT.cell rfl
            have c91 : WT.cell? ⟨w.heap.size, 1, none⟩ = some (.slice a3 (L.length + 1) c3) := XT.cell rfl
            have B9 : Below w.heap.size w W9 := below_row BT hW9 (by omega)
            have PR9 : Hid (PR W9 (.slice a3 (L.length + 1) c3) (L ++ [q0])) := PR.own (by rw [← hW9]; exact own_rowM OT (by omega)) (fun r hr => by rcases List.mem_append.1 hr with h1 | h1; exact HPQ.out _ B9 r h1; simp only [List.mem_singleton] at h1; subst h1; exact HPQ.out _ B9 _ HQ0.out)
            have HSn : Hid (Sm (n + 1) (L ++ [q0])) := ⟨by rw [List.length_append]; simp; omega, fun r hr => by rcases List.mem_append.1 hr with h1 | h1; have := HSm.out.2 r h1; omega; simp only [List.mem_singleton] at h1; subst h1; have := HSm.out.2 _ HQ0.out; omega⟩
            go_wp2_with ((with_reducible refine st_row (ty := 28) XRT (infoPf2 _ _) (pfSame _ _ _ _) (pfOne _ _ _ _) hW9 ?_ ?_ ?_); rfl; rfl)
            refine bodyPost_ret (v := .agg #[.int .i64 cnt, .slice a3 (L.length + 1) c3]) (bent_results R9 rfl) rfl ?_
            exact bentP_mk (by rw [List.length_append]; rfl) PR9.out HSn.out B9
          · go_simp
            refine hK _ _ ?_
            clear hK
            refine wpAny_ready (rs := [1, 5]) (by kernel_rfl) (by simp) ?_
            refine AllReady.cons rfl (fun K hK => ?_) (AllReady.cons rfl (fun K hK => ?_) AllReady.nil)
            · go_simp
              refine hK _ _ ?_
              clear hK
              refine wpAny_ready (rs := [5]) (by kernel_rfl) (by simp) ?_
              refine AllReady.cons rfl (fun K hK => ?_) AllReady.nil
              go_simp
              refine hK _ _ ?_
              clear hK
              have c6 : (w7.drew.alloc (.cells #[.int .i64 q0.1.idx, .string q0.1.key, .string q0.1.dat, .slice sa0 q0.1.sides.length sc0] 62)).cell? ⟨w.heap.size, 1, none⟩ = some (.slice (some ⟨g1, 0, none⟩) L.length c1) := (X7.drew.alloc _).cell rfl
              have c6' : (w7.alloc (.cells #[.int .i64 q0.1.idx, .string q0.1.key, .string q0.1.dat, .slice sa0 q0.1.sides.length sc0] 62)).cell? ⟨w.heap.size, 1, none⟩ = some (.slice (some ⟨g1, 0, none⟩) L.length c1) := (X7.alloc _).cell rfl
              refine wpAny_ready (rs := [6]) (by kernel_rfl) (by simp) ?_
              refine AllReady.cons rfl (fun K hK => ?_) AllReady.nil
              refine step_ifM rfl ?_
              refine wp_append_own _ (.tmp 117) (.tmp 121) 26 (by kernel_rfl) (w.heap.size + 3) 62 iP (.agg #[.int .i64 0, .string ⟨#[]⟩, .string ⟨#[]⟩, .slice none 0 0]) 4 64 Try.underlying26 hi_ hi0 hi1 hi2 rfl (by decide) (.slice (some ⟨g1, 0, none⟩) L.length c1) L.length (ptC L) (by kernel_rfl) (O7d.alloc _) ⟨w7.heap.size, 0, none⟩ 1 1 [.int .i64 q0.1.idx, .string q0.1.key, .string q0.1.dat, .slice sa0 q0.1.sides.length sc0] (by kernel_rfl) rfl ?_ ?_ ?_ ?_ ?_ ?_
              · intro j u hj
                rw [Addr.add_mid, Nat.zero_add]
                exact (blk_new w7.drew w7.heap.size _ _ rfl).cell (by simpa using hj)
              · intro u hu
                simp at hu
                rcases hu with rfl | rfl | rfl | rfl <;> rfl
              · unfold maxLen; omega
              · omega
              · simp; omega
              intro v' w8 hown' hgrow _
              obtain ⟨a3, c3, rfl⟩ := own_sliceM hown'
              have zg := hgrow.size
              simp at zg
              have X8 : Blk w8 w.heap.size #[.int .i64 cnt, .slice (some ⟨g1, 0, none⟩) L.length c1] 28 := (hgrow.block w.heap.size (by simp; omega) (fun e => by have := (O7d.lt _ e.symm).1; omega)).trans (X7.drew.alloc _)
              have XR8 : Blk w8 (w.heap.size + 2) #[.int .i64 0, .slice none 0 0] 28 := (hgrow.block (w.heap.size + 2) (by simp; omega) (fun e => by have := (O7d.lt _ e.symm).1; omega)).trans (XR7.drew.alloc _)
              have B8 : Below w.heap.size w w8 := below_grown (B7.drew.alloc (show w.heap.size ≤ w7.drew.heap.size from by show w.heap.size ≤ w7.heap.size; omega) _) hgrow (fun k hk => by have := (O7d.lt k hk).1; omega) (by simp; omega)
              have f8 : w8.frozen? ⟨w.heap.size, 1, none⟩ = false := X8.frozen
              have p8 : w8.cell? ⟨w.heap.size, 1, none⟩ = some (.slice (some ⟨g1, 0, none⟩) L.length c1) := X8.cell rfl
              clear hgrow
              refine hK _ _ ?_
              clear hK
              refine wpAny_ready (rs := [7]) (by kernel_rfl) (by simp) ?_
              refine AllReady.cons rfl (fun K hK => ?_) AllReady.nil
              go_simp
              refine hK _ _ ?_
              clear hK
              refine wpAny_ready (rs := [8]) (by kernel_rfl) (by simp) ?_
              refine AllReady.cons rfl (fun K hK => ?_) AllReady.nil
              go_simp
              refine hK _ _ ?_
              clear hK
              refine wpAny_done (by kernel_rfl) ?_ _
              obtain ⟨WT, hWT, XT, XRT, BT, OT⟩ : ∃ WT, w8.setCell ⟨w.heap.size, 1, none⟩ (.slice a3 (L.length + 1) c3) = WT ∧ Blk WT w.heap.size #[.int .i64 cnt, .slice a3 (L.length + 1) c3] 28 ∧ Blk WT (w.heap.size + 2) #[.int .i64 0, .slice none 0 0] 28 ∧ Below w.heap.size w WT ∧ WT.ownsRow (w.heap.size + 3) 62 4 (.slice a3 (L.length + 1) c3) (L ++ [q0]).length (ptC (L ++ [q0])) :=
                ⟨_, rfl, X8.set 1 _, XR8.setOther (by simp) _, (Off.setCell (b := w.heap.size) (Off.refl _ _) (p := ⟨w.heap.size, _, none⟩) rfl _).below (by omega) B8 B8.size, by rw [List.length_append, HP0.out]; exact own_setM hown' (by omega)⟩
              clear hown'
              obtain ⟨W9, hW9, R9, hoth9, Z9, ho9⟩ := setRow_named XRT #[.int .i64 cnt, .slice a3 (L.length + 1) c3]
              have c90 : WT.cell? ⟨w.heap.size, 0, none⟩ = some (.int .i64 cnt) := XT.cell rfl
              have c91 : WT.cell? ⟨w.heap.size, 1, none⟩ = some (.slice a3 (L.length + 1) c3) := XT.cell rfl
              have B9 : Below w.heap.size w W9 := below_row BT hW9 (by omega)
              have PR9 : Hid (PR W9 (.slice a3 (L.length + 1) c3) (L ++ [q0])) := PR.own (by rw [← hW9]; exact own_rowM OT (by omega)) (fun r hr => by rcases List.mem_append.1 hr with h1 | h1; exact HPQ.out _ B9 r h1; simp only [List.mem_singleton] at h1; subst h1; exact HPQ.out _ B9 _ HQ0.out)
              have HSn : Hid (Sm (n + 1) (L ++ [q0])) := ⟨by rw [List.length_append]; simp; omega, fun r hr => by rcases List.mem_append.1 hr with h1 | h1; have := HSm.out.2 r h1; omega; simp only [List.mem_singleton] at h1; subst h1; have := HSm.out.2 _ HQ0.out; omega⟩
              go_wp2_with ((with_reducible refine st_row (ty := 28) XRT (infoPf2 _ _) (pfSame _ _ _ _) (pfOne _ _ _ _) hW9 ?_ ?_ ?_); rfl; rfl)
              refine bodyPost_ret (v := .agg #[.int .i64 cnt, .slice a3 (L.length + 1) c3]) (bent_results R9 rfl) rfl ?_
              exact bentP_mk (by rw [List.length_append]; rfl) PR9.out HSn.out B9
            · go_simp
              refine hK _ _ ?_
              clear hK
              have c6 : (w7.drew.alloc (.cells #[.int .i64 q0.1.idx, .string q0.1.key, .string q0.1.dat, .slice sa0 q0.1.sides.length sc0] 62)).cell? ⟨w.heap.size, 1, none⟩ = some (.slice (some ⟨g1, 0, none⟩) L.length c1) := (X7.drew.alloc _).cell rfl
              have c6' : (w7.alloc (.cells #[.int .i64 q0.1.idx, .string q0.1.key, .string q0.1.dat, .slice sa0 q0.1.sides.length sc0] 62)).cell? ⟨w.heap.size, 1, none⟩ = some (.slice (some ⟨g1, 0, none⟩) L.length c1) := (X7.alloc _).cell rfl
              refine wpAny_ready (rs := [1]) (by kernel_rfl) (by simp) ?_
              refine AllReady.cons rfl (fun K hK => ?_) AllReady.nil
              go_simp
              refine hK _ _ ?_
              clear hK
              refine wpAny_ready (rs := [6]) (by kernel_rfl) (by simp) ?_
              refine AllReady.cons rfl (fun K hK => ?_) AllReady.nil
              refine step_ifM rfl ?_
              refine wp_append_own _ (.tmp 117) (.tmp 121) 26 (by kernel_rfl) (w.heap.size + 3) 62 iP (.agg #[.int .i64 0, .string ⟨#[]⟩, .string ⟨#[]⟩, .slice none 0 0]) 4 64 Try.underlying26 hi_ hi0 hi1 hi2 rfl (by decide) (.slice (some ⟨g1, 0, none⟩) L.length c1) L.length (ptC L) (by kernel_rfl) (O7d.alloc _) ⟨w7.heap.size, 0, none⟩ 1 1 [.int .i64 q0.1.idx, .string q0.1.key, .string q0.1.dat, .slice sa0 q0.1.sides.length sc0] (by kernel_rfl) rfl ?_ ?_ ?_ ?_ ?_ ?_
              · intro j u hj
                rw [Addr.add_mid, Nat.zero_add]
                exact (blk_new w7.drew w7.heap.size _ _ rfl).cell (by simpa using hj)
              · intro u hu
                simp at hu
                rcases hu with rfl | rfl | rfl | rfl <;> rfl
              · unfold maxLen; omega
              · omega
              · simp; omega
              intro v' w8 hown' hgrow _
              obtain ⟨a3, c3, rfl⟩ := own_sliceM hown'
              have zg := hgrow.size
              simp at zg
              have X8 : Blk w8 w.heap.size #[.int .i64 cnt, .slice (some ⟨g1, 0, none⟩) L.length c1] 28 := (hgrow.block w.heap.size (by simp; omega) (fun e => by have := (O7d.lt _ e.symm).1; omega)).trans (X7.drew.alloc _)
              have XR8 : Blk w8 (w.heap.size + 2) #[.int .i64 0, .slice none 0 0] 28 := (hgrow.block (w.heap.size + 2) (by simp; omega) (fun e => by have := (O7d.lt _ e.symm).1; omega)).trans (XR7.drew.alloc _)
              have B8 : Below w.heap.size w w8 := below_grown (B7.drew.alloc (show w.heap.size ≤ w7.drew.heap.size from by show w.heap.size ≤ w7.heap.size; omega) _) hgrow (fun k hk => by have := (O7d.lt k hk).1; omega) (by simp; omega)
              have f8 : w8.frozen? ⟨w.heap.size, 1, none⟩ = false := X8.frozen
              have p8 : w8.cell? ⟨w.heap.size, 1, none⟩ = some (.slice (some ⟨g1, 0, none⟩) L.length c1) := X8.cell rfl
              clear hgrow
              refine hK _ _ ?_
              clear hK
              refine wpAny_ready (rs := [7]) (by kernel_rfl) (by simp) ?_
              refine AllReady.cons rfl (fun K hK => ?_) AllReady.nil
              go_simp
              refine hK _ _ ?_
              clear hK
              refine wpAny_ready (rs := [8]) (by kernel_rfl) (by simp) ?_
              refine AllReady.cons rfl (fun K hK => ?_) AllReady.nil
              go_simp
              refine hK _ _ ?_
              clear hK
              refine wpAny_done (by kernel_rfl) ?_ _
              obtain ⟨WT, hWT, XT, XRT, BT, OT⟩ : ∃ WT, w8.setCell ⟨w.heap.size, 1, none⟩ (.slice a3 (L.length + 1) c3) = WT ∧ Blk WT w.heap.size #[.int .i64 cnt, .slice a3 (L.length + 1) c3] 28 ∧ Blk WT (w.heap.size + 2) #[.int .i64 0, .slice none 0 0] 28 ∧ Below w.heap.size w WT ∧ WT.ownsRow (w.heap.size + 3) 62 4 (.slice a3 (L.length + 1) c3) (L ++ [q0]).length (ptC (L ++ [q0])) :=
                ⟨_, rfl, X8.set 1 _, XR8.setOther (by simp) _, (Off.setCell (b := w.heap.size) (Off.refl _ _) (p := ⟨w.heap.size, _, none⟩) rfl _).below (by omega) B8 B8.size, by rw [List.length_append, HP0.out]; exact own_setM hown' (by omega)⟩
              clear hown'
              obtain ⟨W9, hW9, R9, hoth9, Z9, ho9⟩ := setRow_named XRT #[.int .i64 cnt, .slice a3 (L.length + 1) c3]
              have c90 : WT.cell? ⟨w.heap.size, 0, none⟩ = some (.int .i64 cnt) := XT.cell rfl
              have c91 : WT.cell? ⟨w.heap.size, 1, none⟩ = some (.slice a3 (L.length + 1) c3) := XT.cell rfl
              have B9 : Below w.heap.size w W9 := below_row BT hW9 (by omega)
              have PR9 : Hid (PR W9 (.slice a3 (L.length + 1) c3) (L ++ [q0])) := PR.own (by rw [← hW9]; exact own_rowM OT (by omega)) (fun r hr => by rcases List.mem_append.1 hr with h1 | h1; exact HPQ.out _ B9 r h1; simp only [List.mem_singleton] at h1; subst h1; exact HPQ.out _ B9 _ HQ0.out)
              have HSn : Hid (Sm (n + 1) (L ++ [q0])) := ⟨by rw [List.length_append]; simp; omega, fun r hr => by rcases List.mem_append.1 hr with h1 | h1; have := HSm.out.2 r h1; omega; simp only [List.mem_singleton] at h1; subst h1; have := HSm.out.2 _ HQ0.out; omega⟩
              go_wp2_with ((with_reducible refine st_row (ty := 28) XRT (infoPf2 _ _) (pfSame _ _ _ _) (pfOne _ _ _ _) hW9 ?_ ?_ ?_); rfl; rfl)
              refine bodyPost_ret (v := .agg #[.int .i64 cnt, .slice a3 (L.length + 1) c3]) (bent_results R9 rfl) rfl ?_
              exact bentP_mk (by rw [List.length_append]; rfl) PR9.out HSn.out B9
        · have n1 : (0 : Int) ≤ (L.length : Int) - 1 := by omega
          have n2 : ((L.length : Int) - 1).toNat = L.length - 1 := by omega
          have n3 : (L.length : Int) - 1 < (L.length : Int) := by omega
          have n4 : IntKind.i64.wrap ((L.length : Int) - 1) = (L.length : Int) - 1 := by rw [IntKind.wrap_i64]; omega
          have hL1 : (0 : Int) < (L.length : Int) := by omega
          have hL2 : 0 < L.length := by omega
          have n5 : ¬ (L.length : Int) < 1 := by omega
          obtain ⟨q0, hq0⟩ : ∃ q0, L[0]? = some q0 := ⟨L[0]'(by omega), List.getElem?_eq_getElem (by omega)⟩
          obtain ⟨qz, hqz⟩ : ∃ qz, L[L.length - 1]? = some qz := ⟨L[L.length - 1]'(by omega), List.getElem?_eq_getElem (by omega)⟩
          have HQ0 : Hid (L[0]? = some q0) := hq0
          have HQZ : Hid (L[L.length - 1]? = some qz) := hqz
          obtain ⟨sa0, sc0, hsv0⟩ : ∃ sa sc, q0.2 = .slice sa q0.1.sides.length sc := by obtain ⟨a, c, e, _⟩ := (HPQ.out _ B7 q0 (List.mem_of_getElem? hq0)).1; exact ⟨a, c, e⟩
          obtain ⟨saz, scz, hsvz⟩ : ∃ sa sc, qz.2 = .slice sa qz.1.sides.length sc := by obtain ⟨a, c, e, _⟩ := (HPQ.out _ B7 qz (List.mem_of_getElem? hqz)).1; exact ⟨a, c, e⟩
          obtain ⟨m0, m1, m2, m3⟩ := own_k3 O7 hq0
          obtain ⟨l0, l1, l2, l3⟩ := own_k3 O7 hqz
          simp only [Nat.zero_mul, Nat.zero_add] at m0 m1 m2 m3
          rw [hsv0] at m3
          rw [hsvz] at l3
          obtain ⟨z, hz_⟩ : ∃ z, L.length - 1 = z := ⟨_, rfl⟩
          rw [hz_] at l0 l1 l2 l3 n2
          obtain ⟨V1, V2, V3, V4, ⟨eV1, eV2, eV3, eV4⟩, ⟨fV0, fV1, fV2, fV3⟩, ⟨_, gV1, gV2, gV3⟩, OV, ofV⟩ := own_put qz O7 hq0
          simp only [Nat.zero_mul, Nat.zero_add] at eV1 eV2 eV3 eV4 fV0 fV1 fV2 fV3 gV1 gV2 gV3
          rw [hsvz] at eV4
          obtain ⟨rz, hrz⟩ : ∃ rz, (L.set 0 qz)[z]? = some rz := ⟨(L.set 0 qz)[z]'(by rw [List.length_set]; omega), List.getElem?_eq_getElem (by rw [List.length_set]; omega)⟩
          obtain ⟨U1, U2, U3, U4, ⟨eU1, eU2, eU3, eU4⟩, ⟨fU0, fU1, fU2, fU3⟩, ⟨gU0, gU1, gU2, gU3⟩, OU, ofU⟩ := own_put q0 OV hrz
          rw [hsv0] at eU4
          have HOU : Hid (U4.ownsRow (w.heap.size + 3) 62 4 (.slice (some ⟨g1, 0, none⟩) L.length c1) ((L.set 0 qz).set z q0).length (ptC ((L.set 0 qz).set z q0))) := by rw [List.length_set, List.length_set] at OU ⊢; exact OU
          clear hq0 hqz hsv0 hsvz hrz OV OU
          go_wp2_with fail
          refine wp_region_any (by kernel_rfl) ?_
          change wpAny _ _ _ _ _ _ _ (World.drew _)
          refine wpAny_take (i := 0) (v := (.slice (some ⟨g1, 0, none⟩) L.length c1)) rfl (by kernel_rfl) (by kernel_rfl) (by kernel_rfl) (fun _ _ _ h => h) (Or.inl ⟨by rfl, fun w => by go_simp⟩) ?_
          refine wpAny_take (i := 1) (v := (.slice (some ⟨g1, 0, none⟩) L.length c1)) rfl (by kernel_rfl) (by kernel_rfl) (by kernel_rfl) (fun _ _ _ h => h) (Or.inl ⟨by rfl, fun w => by go_simp⟩) ?_
          refine wpAny_take (i := 2) (v := (.slice (some ⟨g1, 0, none⟩) L.length c1)) rfl (by kernel_rfl) (by kernel_rfl) (by kernel_rfl) (fun _ _ _ h => h) (Or.inl ⟨by rfl, fun w => by go_simp⟩) ?_
          refine wpAny_take (i := 3) (v := (.int .i64 L.length)) rfl (by kernel_rfl) (by kernel_rfl) (by kernel_rfl) (fun _ _ _ h => h) (Or.inl ⟨by rfl, fun w => by go_simp⟩) ?_
          refine wpAny_take (i := 4) (v := (.int .i64 ((L.length : Int) - 1))) rfl (by kernel_rfl) (by kernel_rfl) (by kernel_rfl) (fun _ _ _ h => h) (Or.inl ⟨by rfl, fun w => by go_simp⟩) ?_
          refine wpAny_take (i := 5) (v := (.slice (some ⟨g1, 0, none⟩) L.length c1)) rfl (by kernel_rfl) (by kernel_rfl) (by kernel_rfl) (fun _ _ _ h => h) (Or.inl ⟨by rfl, fun w => by go_simp⟩) ?_
          refine wpAny_take (i := 6) (v := (.slice (some ⟨g1, 0, none⟩) L.length c1)) rfl (by kernel_rfl) (by kernel_rfl) (by kernel_rfl) (fun _ _ _ h => h) (Or.inl ⟨by rfl, fun w => by go_simp⟩) ?_
          refine wpAny_take (i := 7) (v := (.int .i64 L.length)) rfl (by kernel_rfl) (by kernel_rfl) (by kernel_rfl) (fun _ _ _ h => h) (Or.inl ⟨by rfl, fun w => by go_simp⟩) ?_
          refine wpAny_take (i := 8) (v := (.int .i64 ((L.length : Int) - 1))) rfl (by kernel_rfl) (by kernel_rfl) (by kernel_rfl) (fun _ _ _ h => h) (Or.inl ⟨by rfl, fun w => by go_simp⟩) ?_
          refine wpAny_take (i := 9) (v := (.pointer (some ⟨g1, z * 4, none⟩))) rfl (by kernel_rfl) (by kernel_rfl) (by kernel_rfl) (fun _ _ _ h => h) (Or.inl ⟨by rfl, fun w => by go_simp; first | done | (intro h; omega)⟩) ?_
          refine wpAny_take (i := 11) (v := (.slice (some ⟨g1, 0, none⟩) L.length c1)) rfl (by kernel_rfl) (by kernel_rfl) (by kernel_rfl) (fun _ _ _ h => h) (Or.inl ⟨by rfl, fun w => by go_simp⟩) ?_
          refine wpAny_take (i := 12) (v := (.pointer (some ⟨g1, 0, none⟩))) rfl (by kernel_rfl) (by kernel_rfl) (by kernel_rfl) (fun _ _ _ h => h) (Or.inl ⟨by rfl, fun w => by go_simp⟩) ?_
          refine wpAny_ready (rs := [10, 13]) (by kernel_rfl) (by simp) ?_
          refine AllReady.cons rfl (fun K hK => ?_) (AllReady.cons rfl (fun K hK => ?_) AllReady.nil)
          · go_simp
            refine hK _ _ ?_
            clear hK
            refine wpAny_ready (rs := [13]) (by kernel_rfl) (by simp) ?_
            refine AllReady.cons rfl (fun K hK => ?_) AllReady.nil
            go_simp
            refine hK _ _ ?_
            clear hK
            refine wpAny_ready (rs := [14]) (by kernel_rfl) (by simp) ?_
            refine AllReady.cons rfl (fun K hK => ?_) AllReady.nil
            go_simp
            refine hK _ _ ?_
            clear hK
            refine wpAny_ready (rs := [15]) (by kernel_rfl) (by simp) ?_
            refine AllReady.cons rfl (fun K hK => ?_) AllReady.nil
            go_simp
            refine hK _ _ ?_
            clear hK
            refine wpAny_ready (rs := [16]) (by kernel_rfl) (by simp) ?_
            refine AllReady.cons rfl (fun K hK => ?_) AllReady.nil
            go_simp
            refine hK _ _ ?_
            clear hK
            refine wpAny_ready (rs := [17]) (by kernel_rfl) (by simp) ?_
            refine AllReady.cons rfl (fun K hK => ?_) AllReady.nil
            go_simp
            refine hK _ _ ?_
            clear hK
            refine wpAny_done (by kernel_rfl) ?_ _
            have BT : Below w.heap.size w U4.drew := (ofU.below (show w.heap.size ≤ g1 by omega) (ofV.below (show w.heap.size ≤ g1 by omega) B7 B7.size) (ofV.below (show w.heap.size ≤ g1 by omega) B7 B7.size).size).drew
            have XT : Blk U4.drew w.heap.size #[.int .i64 cnt, .slice (some ⟨g1, 0, none⟩) L.length c1] 28 := ((X7.off ofV (by omega)).off ofU (by omega)).drew
            have XRT : Blk U4.drew (w.heap.size + 2) #[.int .i64 0, .slice none 0 0] 28 := ((XR7.off ofV (by omega)).off ofU (by omega)).drew
            clear eV1 eV2 eV3 eV4 eU1 eU2 eU3 eU4
            obtain ⟨W9, hW9, R9, hoth9, Z9, ho9⟩ := setRow_named XRT #[.int .i64 cnt, .slice (some ⟨g1, 0, none⟩) L.length c1]
            have c90 : U4.drew.cell? ⟨w.heap.size, 0, none⟩ = some (.int .i64 cnt) := XT.cell rfl
            have c91 : U4.drew.cell? ⟨w.heap.size, 1, none⟩ = some (.slice (some ⟨g1, 0, none⟩) L.length c1) := XT.cell rfl
            have B9 : Below w.heap.size w W9 := below_row BT hW9 (by omega)
            have PR9 : Hid (PR W9 (.slice (some ⟨g1, 0, none⟩) L.length c1) ((L.set 0 qz).set z q0)) := PR.own (by rw [← hW9]; exact own_rowM (own_below HOU.out (Below.refl _ _).drew) (by omega)) (fun r hr => by rcases List.mem_or_eq_of_mem_set hr with h1 | rfl; rcases List.mem_or_eq_of_mem_set h1 with h1 | rfl; exact HPQ.out _ B9 r h1; exact HPQ.out _ B9 _ (List.mem_of_getElem? HQZ.out); exact HPQ.out _ B9 _ (List.mem_of_getElem? HQ0.out))
            have HSn : Hid (Sm (n + 1) ((L.set 0 qz).set z q0)) := Sm.up ⟨by rw [List.length_set, List.length_set]; omega, fun r hr => by rcases List.mem_or_eq_of_mem_set hr with h1 | rfl; rcases List.mem_or_eq_of_mem_set h1 with h1 | rfl; exact HSm.out.2 r h1; exact HSm.out.2 _ (List.mem_of_getElem? HQZ.out); exact HSm.out.2 _ (List.mem_of_getElem? HQ0.out)⟩
            go_wp2_with ((with_reducible refine st_row (ty := 28) XRT (infoPf2 _ _) (pfSame _ _ _ _) (pfOne _ _ _ _) hW9 ?_ ?_ ?_); rfl; rfl)
            refine bodyPost_ret (v := .agg #[.int .i64 cnt, .slice (some ⟨g1, 0, none⟩) L.length c1]) (bent_results R9 rfl) rfl ?_
            exact bentP_mk (by rw [List.length_set, List.length_set]) PR9.out HSn.out B9
          · go_simp
            refine hK _ _ ?_
            clear hK
            refine wpAny_ready (rs := [10]) (by kernel_rfl) (by simp) ?_
            refine AllReady.cons rfl (fun K hK => ?_) AllReady.nil
            go_simp
            refine hK _ _ ?_
            clear hK
            refine wpAny_ready (rs := [14]) (by kernel_rfl) (by simp) ?_
            refine AllReady.cons rfl (fun K hK => ?_) AllReady.nil
            go_simp
            refine hK _ _ ?_
            clear hK
            refine wpAny_ready (rs := [15]) (by kernel_rfl) (by simp) ?_
            refine AllReady.cons rfl (fun K hK => ?_) AllReady.nil
            go_simp
            refine hK _ _ ?_
            clear hK
            refine wpAny_ready (rs := [16]) (by kernel_rfl) (by simp) ?_
            refine AllReady.cons rfl (fun K hK => ?_) AllReady.nil
            go_simp
            refine hK _ _ ?_
            clear hK
            refine wpAny_ready (rs := [17]) (by kernel_rfl) (by simp) ?_
            refine AllReady.cons rfl (fun K hK => ?_) AllReady.nil
            go_simp
            refine hK _ _ ?_
            clear hK
            refine wpAny_done (by kernel_rfl) ?_ _
            have BT : Below w.heap.size w U4.drew := (ofU.below (show w.heap.size ≤ g1 by omega) (ofV.below (show w.heap.size ≤ g1 by omega) B7 B7.size) (ofV.below (show w.heap.size ≤ g1 by omega) B7 B7.size).size).drew
            have XT : Blk U4.drew w.heap.size #[.int .i64 cnt, .slice (some ⟨g1, 0, none⟩) L.length c1] 28 := ((X7.off ofV (by omega)).off ofU (by omega)).drew
            have XRT : Blk U4.drew (w.heap.size + 2) #[.int .i64 0, .slice none 0 0] 28 := ((XR7.off ofV (by omega)).off ofU (by omega)).drew
            clear eV1 eV2 eV3 eV4 eU1 eU2 eU3 eU4
            obtain ⟨W9, hW9, R9, hoth9, Z9, ho9⟩ := setRow_named XRT #[.int .i64 cnt, .slice (some ⟨g1, 0, none⟩) L.length c1]
            have c90 : U4.drew.cell? ⟨w.heap.size, 0, none⟩ = some (.int .i64 cnt) := XT.cell rfl
            have c91 : U4.drew.cell? ⟨w.heap.size, 1, none⟩ = some (.slice (some ⟨g1, 0, none⟩) L.length c1) := XT.cell rfl
            have B9 : Below w.heap.size w W9 := below_row BT hW9 (by omega)
            have PR9 : Hid (PR W9 (.slice (some ⟨g1, 0, none⟩) L.length c1) ((L.set 0 qz).set z q0)) := PR.own (by rw [← hW9]; exact own_rowM (own_below HOU.out (Below.refl _ _).drew) (by omega)) (fun r hr => by rcases List.mem_or_eq_of_mem_set hr with h1 | rfl; rcases List.mem_or_eq_of_mem_set h1 with h1 | rfl; exact HPQ.out _ B9 r h1; exact HPQ.out _ B9 _ (List.mem_of_getElem? HQZ.out); exact HPQ.out _ B9 _ (List.mem_of_getElem? HQ0.out))
            have HSn : Hid (Sm (n + 1) ((L.set 0 qz).set z q0)) := Sm.up ⟨by rw [List.length_set, List.length_set]; omega, fun r hr => by rcases List.mem_or_eq_of_mem_set hr with h1 | rfl; rcases List.mem_or_eq_of_mem_set h1 with h1 | rfl; exact HSm.out.2 r h1; exact HSm.out.2 _ (List.mem_of_getElem? HQZ.out); exact HSm.out.2 _ (List.mem_of_getElem? HQ0.out)⟩
            go_wp2_with ((with_reducible refine st_row (ty := 28) XRT (infoPf2 _ _) (pfSame _ _ _ _) (pfOne _ _ _ _) hW9 ?_ ?_ ?_); rfl; rfl)
            refine bodyPost_ret (v := .agg #[.int .i64 cnt, .slice (some ⟨g1, 0, none⟩) L.length c1]) (bent_results R9 rfl) rfl ?_
            exact bentP_mk (by rw [List.length_set, List.length_set]) PR9.out HSn.out B9
end Go.Proofs.Ytakdnkknmjahoaa
