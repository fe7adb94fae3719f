/- The document's Of, on any records. -/
import Derived.Test.YtmcafgmjfgfaeaaDoorLr47
import Derived.Test.YtmcafgmjfgfaeaaDoorLr46
import Derived.Test.YtmcafgmjfgfaeaaDoorLr38
import Derived.Test.YtmcafgmjfgfaeaaDoorLr43
import Derived.Deep.DeepCutAuto
import Derived.Deep.CutBlock
namespace Go.Proofs.YtmcafgmjfgfaeaaDoor
open Go.RowKit
set_option linter.unusedSimpArgs false
set_option linter.unusedVariables false
variable {g base : Nat} {m l : List Kt}

theorem Sim.numsW (S : Sim m l) (H : Wk l) {i p : Nat} (hi : i < l.length) (hp : p ≤ 4) : 0 ≤ (kAt m i).n p ∧ 0 ≤ (kAt m i).n (5 + p) ∧ (kAt m i).n p + (kAt m i).n (5 + p) = (kAt l i).n (apf p) ∧ (kAt l i).n (apf p) ≤ 1099511627776 := by
  have h1 := S.free i hi p hp
  have h2 := S.kept i hi p hp
  have h3 := H.held i hi _ _ (part_of hp)
  omega

set_option maxRecDepth 100000 in
set_option maxHeartbeats 1000000 in
theorem totalW_ref (w : World) (v : Value) (pt : Int) (p : Nat) (hpt : pt = p) (h : Rm w base v m) (S : Sim m l) (H : Wk l) (hp : p ≤ 4) :
    Calls Tryd.prog 46 #[.agg #[.int .i64 g, v], .int .i64 pt] w fun e w' => e = .returned (.int .i64 (tot l (apf p))) ∧ Below w.heap.size w w' := by
  subst hpt
  have hlen := H.len
  have hpos := H.pos
  have hml := S.len
  obtain ⟨q, cap, rfl, hbq, hq, hcap, hc⟩ := h.at (by omega)
  have HC : Hid _ := hc
  have HS : Hid _ := fun (i : Nat) (hi : i < l.length) => S.numsW H hi hp
  have HT : Hid _ := fun (k : Nat) (hk : k ≤ l.length) => H.sum16 (part_of hp) k hk
  have HN : Hid _ := fun (k : Nat) (hk : k < l.length) => tot_take l k (apf p) hk
  rw [hml]
  clear hc h
  obtain ⟨W1, hW1, X1, B1⟩ : ∃ W1, (w.alloc (.cells #[.int .i64 g, .slice (some ⟨q, 0, none⟩) l.length cap] 29)) = W1 ∧ Blk W1 w.heap.size #[.int .i64 g, .slice (some ⟨q, 0, none⟩) l.length cap] 29 ∧ Below w.heap.size w W1 := ⟨_, rfl, blk_new _ _ _ _ rfl, by go_grown⟩
  go_enter Tryd.func46, Tryd.ntmps46
  go_wp2
  go_loopw [5, 6] (fun n i wr => ∃ k : Nat, k ≤ l.length ∧ i = .int .i64 k ∧ n = .int .i64 (tot (l.take k) (apf p)) ∧ Blk wr w.heap.size #[.int .i64 g, .slice (some ⟨q, 0, none⟩) l.length cap] 29 ∧ Below w.heap.size w wr) (fun _ i _ => l.length - (intOf i).toNat)
  case atStart => exact ⟨0, Nat.zero_le _, rfl, rfl, X1, B1⟩
  case round =>
    obtain ⟨k, hk, rfl, rfl, Xr, br⟩ := hrel
    have c1 : wr.cell? ⟨w.heap.size, 1, none⟩ = some (.slice (some ⟨q, 0, none⟩) l.length cap) := Xr.cell rfl
    by_cases hlt : k < l.length
    · have hd : decide ((k : Int) < l.length) = true := by simp only [decide_eq_true_eq]; omega
      obtain ⟨d, _, _⟩ := HC.out k (by omega)
      have d1 : wr.cell? ⟨q, k * 12 + p, none⟩ = some (.int .i64 ((kAt m k).n p)) := (br.cell (p := ⟨q, k * 12 + p, none⟩) hq).trans (d p (by omega))
      have d2 : wr.cell? ⟨q, k * 12 + 5 + p, none⟩ = some (.int .i64 ((kAt m k).n (5 + p))) := by
        have := (br.cell (p := ⟨q, k * 12 + (5 + p), none⟩) hq).trans (d (5 + p) (by omega))
        rw [← Nat.add_assoc] at this
        exact this
      obtain ⟨s1, s2, s3, s4⟩ := HS.out k hlt
      have t1 := HT.out k hk
      have t2 := HN.out k hlt
      have t3 := HT.out (k + 1) (by omega)
      rw [t2] at t3
      have HN2 : Hid _ := t2
      have HS3 : Hid _ := s3
      rw [← s3] at t3
      clear d t2 s3
      generalize tot (l.take k) (apf p) = t at *
      generalize (kAt m k).n p = x at *
      generalize (kAt m k).n (5 + p) = y at *
      go_wp2
      go_quiet (fail)
      go_wp2
      refine ⟨⟨k + 1, by omega, by norm_cast, ?_, Xr.below (drewN_below _ _ _), br.trans (drewN_below _ _ _)⟩, ?_⟩
      · rw [HN2.out, ← HS3.out, Int.add_assoc]
      · simp [intOf]; omega
    · have hd : decide ((k : Int) < l.length) = false := by simp only [decide_eq_false_iff_not]; omega
      have htk : l.take k = l := List.take_of_length_le (by omega)
      rw [htk]
      go_wp2
      go_ret
      exact ⟨rfl, br⟩
theorem tot_none {l : List Kt} {f : Nat} (h : ∀ i, i < l.length → (kAt l i).n f = 0) : tot l f = 0 := by
  have : ∀ k, k ≤ l.length → tot (l.take k) f = 0 := fun k => by
    induction k with
    | zero => intro _; simp [tot]
    | succ k ih =>
      intro hk
      rw [tot_take l k f (by omega), ih (by omega), h k (by omega)]
      rfl
  have := this l.length (Nat.le_refl _)
  rw [List.take_length] at this
  exact this
theorem over_parts {l : List Kt} (h : ∀ p, p ≤ 4 → tot l (apf p) ≤ 1099511627776) : overB l = false := by
  have h0 : tot l 0 ≤ _ := h 0 (by omega)
  have h1 : tot l 2 ≤ _ := h 1 (by omega)
  have h2 : tot l 3 ≤ _ := h 2 (by omega)
  have h3 : tot l 4 ≤ _ := h 3 (by omega)
  have h4 : tot l 5 ≤ _ := h 4 (by omega)
  unfold overB
  rw [decide_eq_false (by omega), decide_eq_false (by omega), decide_eq_false (by omega), decide_eq_false (by omega), decide_eq_false (by omega)]
  rfl
theorem over_part {l : List Kt} {p : Nat} (hp : p ≤ 4) (h : 1099511627776 < tot l (apf p)) : overB l = true := by
  cases e : overB l
  · have := overB_no e (part_of hp)
    omega
  · rfl
def setL : List Value → Nat → List Value → List Value
  | xs, _, [] => xs
  | xs, o, v :: r => setL (xs.set o v) (o + 1) r
theorem setL_all : ∀ (vs : List Value) (cs : Array Value) (o : Nat), (setAll cs o vs).toList = setL cs.toList o vs
  | [], _, _ => rfl
  | v :: r, cs, o => by
    rw [setAll, setL, setL_all r, Array.toList_setIfInBounds]
theorem own_setCells {e : TypeId} {size q n cap : Nat} : ∀ (vs : List Value) (o : Nat) (w : World) (xs : List Value), w.ownsRow base e size (.slice (some ⟨q, 0, none⟩) n cap) n xs → (w.setCells q o vs).ownsRow base e size (.slice (some ⟨q, 0, none⟩) n cap) n (setL xs o vs)
  | [], _, _, _, h => h
  | v :: r, o, w, xs, h => by
    rw [World.setCells, setL]
    exact own_setCells r (o + 1) _ _ (h.stored o v).1
theorem Rm.setK {w : World} {q cap : Nat} (h : Rm w base (.slice (some ⟨q, 0, none⟩) m.length cap) m) {i : Nat} (hi : i < m.length) (k : Kt) : Rm (w.setCells q (i * 12) k.cells) base (.slice (some ⟨q, 0, none⟩) m.length cap) (m.set i k) := by
  unfold Rm at h ⊢
  have h2 := own_setCells k.cells (i * 12) w _ h
  have e := congrArg Array.toList (kC_all hi k)
  rw [setL_all] at e
  rw [List.length_set]
  have e1 : (kC m).toList = kL m := rfl
  have e2 : (kC (m.set i k)).toList = kL (m.set i k) := rfl
  rw [e1, e2] at e
  rw [← e]
  exact h2
theorem off_setCellsR (vs : List Value) (o : Nat) (w : World) (b : Nat) : Off b w (w.setCells b o vs) := off_setCells vs o w w b (Off.refl _ _)
theorem st_midR {P : Program} {ops : Array Oper} {rest : List Oper} {dst : Option Tmp} {type : TypeId} {pos : String} {after : Array Edge} {a : Act} {w : World} {Q : Exit → Act → World → Prop} {ty : TypeId} {x y : Operand}
    {k o : Nat} {cs' : Array Value} (hs : w.there k o cs'.size) (hi : (P.info? ty).map (·.size) = some cs'.size) (h1 : cs'.all (·.oneCell') = true) {W : World} (hW : w.setCells k o cs'.toList = W)
    (hx : a.eval x = .pointer (some ⟨k, o, none⟩)) (hy : a.eval y = .agg cs') (h : wpList P ops Q rest (a.put dst undef) W) :
    wpList P ops Q ({ dst := dst, op := .store ty x y, type := type, pos := pos, after := after, guard := none } :: rest) a w := by
  subst hW
  exact wpList_store_mid (op := { dst := dst, op := .store ty x y, type := type, pos := pos, after := after, guard := none }) rfl ty x y rfl k o cs' hx hy hs hi h1 h
theorem docs_at (l : List Kt) {i : Nat} (h : i < l.length) : kAt (l.map docK) i = docK (kAt l i) := by
  rw [kAt_eq (by rw [List.length_map]; exact h), kAt_eq h, List.getElem_map]
theorem docs_sim (l : List Kt) : Sim (l.map docK) l := by
  refine ⟨by simp, fun i hi p hp => ?_, fun i hi p hp => ?_, fun i hi => ?_, fun i hi => ?_⟩
  · rw [docs_at l hi]
    show (if p ≤ 4 then _ else _) = _
    rw [if_pos hp]
  · rw [docs_at l hi]
    show (if 5 + p ≤ 4 then _ else if 5 + p < 10 then (kAt l i).n (hpf (5 + p - 5)) else _) = _
    rw [if_neg (by omega), if_pos (by omega), Nat.add_sub_cancel_left]
  · rw [docs_at l hi]; rfl
  · rw [docs_at l hi]; rfl
/-- Memory within the document's Of. -/
structure Ofm (w wr : World) (b8 q cap : Nat) (gi : Int) (m : List Kt) : Prop where
  x6 : Blk wr w.heap.size (rlA 0 (.slice none 0 0)) 29
  x8 : Blk wr b8 (rlA gi (.slice (some ⟨q, 0, none⟩) m.length cap)) 29
  rm : Rm wr (w.heap.size + 1) (.slice (some ⟨q, 0, none⟩) m.length cap) m
  bl : Below w.heap.size w wr
  q8 : q ≠ b8
theorem Ofm.below {w wr w' : World} {b8 q cap : Nat} {gi : Int} {m : List Kt} (h : Ofm w wr b8 q cap gi m) (hb : Below wr.heap.size wr w') : Ofm w w' b8 q cap gi m := ⟨h.x6.below hb, h.x8.below hb, h.rm.below hb, h.bl.trans (hb.mono h.bl.size), h.q8⟩
theorem Ofm.qlo {w wr : World} {b8 q cap : Nat} {gi : Int} {m : List Kt} (h : Ofm w wr b8 q cap gi m) : w.heap.size + 1 ≤ q := (World.ownsRow.lt (show wr.ownsRow _ _ _ _ _ _ from h.rm) q rfl).1
theorem Ofm.put {w wr : World} {b8 q cap : Nat} {gi : Int} {m : List Kt} (h : Ofm w wr b8 q cap gi m) {i : Nat} (hi : i < m.length) (k : Kt) : Ofm w (wr.setCells q (i * 12) k.cells) b8 q cap gi (m.set i k) := by
  have hq := h.qlo
  have o := off_setCellsR k.cells (i * 12) wr q
  have e := h.rm.setK hi k
  refine ⟨h.x6.off o (by omega), by rw [List.length_set]; exact h.x8.off o (fun e => h.q8 e.symm), by rw [List.length_set]; exact e, o.below (by omega) h.bl (by have := h.bl.size; omega), h.q8⟩
theorem Ofm.there {w wr : World} {b8 q cap : Nat} {gi : Int} {m : List Kt} (h : Ofm w wr b8 q cap gi m) {i : Nat} (hi : i < m.length) : wr.there q (i * 12) 12 := fun j hj => ⟨by
  have e : wr.ownsRow (w.heap.size + 1) 50 12 (.slice (some ⟨q, 0, none⟩) m.length cap) m.length (kL m) := h.rm
  rw [e.cellAt (i * 12 + j) (by omega), List.getElem?_eq_getElem (by rw [kL_len]; omega)]
  rfl, (show wr.ownsRow (w.heap.size + 1) 50 12 (.slice (some ⟨q, 0, none⟩) m.length cap) m.length (kL m) from h.rm).frozenAt _⟩
theorem off_setRow (w : World) (b : Nat) (cs : Array Value) : Off b w (w.setRow b cs) := ⟨rfl, rfl, rfl, by simp, fun j hj hne => setRow_other w b j cs hne⟩
theorem Rm.offR {w w' : World} {b : Nat} {v : Value} (h : Rm w base v m) (ho : Off b w w') (hb : b < base) : Rm w' base v m := by
  refine World.ownsRow.kept h (row := some b) ⟨ho.os, ho.tape, ho.output, ho.size, fun k hk hj => ho.block k hk (fun e => hj (by rw [e]))⟩ ?_
  obtain ⟨_, ⟨rfl, _⟩ | ⟨q', cap', cur, rfl, hq, _⟩⟩ := h
  · exact Or.inl rfl
  · refine Or.inr ?_
    simp only [Value.ownBlock, ne_eq, Option.some.injEq]
    omega
set_option maxHeartbeats 8000000 in
set_option maxRecDepth 100000 in
theorem of_ref (c gi : Int) (L : List Rc) (v : Value) (w : World) (hv : Rcs w v L) (hz : L.length ≤ 9223372036854775807) :
    Calls Tryd.prog 15 #[.int .i64 c, .int .i64 gi, v] w fun e w' => Below w.heap.size w w' ∧ ((¬ ofE c gi L = 0 ∧ ∃ z sp n cap, e = .returned (.tuple #[.agg #[.int .i64 z, .slice sp n cap], .int .i64 (ofE c gi L)])) ∨ (ofE c gi L = 0 ∧ ∃ q cap, e = .returned (.tuple #[.agg #[.int .i64 gi, .slice (some ⟨q, 0, none⟩) ((ofL gi.toNat L).map docK).length cap], .int .i64 0]) ∧ Rm w' (w.heap.size + 1) (.slice (some ⟨q, 0, none⟩) ((ofL gi.toNat L).map docK).length cap) ((ofL gi.toNat L).map docK))) := by
  obtain ⟨W0, hW0, X0, B0, Z0⟩ : ∃ W0, w.alloc (.cells #[.int .i64 0, .slice none 0 0] 29) = W0 ∧ Blk W0 w.heap.size (rlA 0 (.slice none 0 0)) 29 ∧ Below w.heap.size w W0 ∧ W0.heap.size = w.heap.size + 1 := ⟨_, rfl, blk_new _ _ _ _ rfl, by go_grown, by simp⟩
  by_cases hnum : 1 ≤ c ∧ c ≤ 16 ∧ 1 ≤ gi ∧ gi ≤ 4
  case neg =>
    obtain ⟨pv, cap, rfl⟩ := hv.len
    have he : ofE c gi L = 1 := by unfold ofE; rw [if_pos hnum]
    have HE : Hid _ := he
    have HNB : Hid _ := newref_bad c gi W0 hnum
    have HX0 : Hid (Blk W0 w.heap.size (rlA 0 (.slice none 0 0)) 29 ∧ Below w.heap.size w W0 ∧ W0.heap.size = w.heap.size + 1) := ⟨X0, B0, Z0⟩
    clear he hnum hv X0 B0 Z0
    go_enter Tryd.func15, Tryd.ntmps15
    go_wp2_with fail
    refine Calls.mono HNB.out ?_
    rintro e w1 ⟨⟨z, sp, n, cp, rfl⟩, b1⟩
    obtain ⟨x0, b0, z0⟩ := HX0.out
    obtain ⟨W2, hW2, X8, X6', B2⟩ : ∃ W2, (w1.alloc (.cells #[.int .i64 0, .slice none 0 0] 29)).setRow w1.heap.size (rlA z (.slice sp n cp)) = W2 ∧ Blk W2 w1.heap.size (rlA z (.slice sp n cp)) 29 ∧ Blk W2 w.heap.size (rlA 0 (.slice none 0 0)) 29 ∧ Below w.heap.size w W2 := by
      have hz1 := b1.size
      have A1 : Blk (w1.alloc (.cells #[.int .i64 0, .slice none 0 0] 29)) w1.heap.size (rlA 0 (.slice none 0 0)) 29 := blk_new _ _ _ _ rfl
      have A2 : Blk (w1.alloc (.cells #[.int .i64 0, .slice none 0 0] 29)) w.heap.size (rlA 0 (.slice none 0 0)) 29 := (x0.below b1).alloc _
      have A3 : Below w.heap.size w w1 := b0.trans (b1.mono b0.size)
      exact ⟨_, rfl, Blk.setRow A1 _, A2.setRowOther _ (by omega), below_setRow (A3.alloc A3.size _) _ _ A3.size⟩
    have X8n : Blk (w1.alloc (.cells #[.int .i64 0, .slice none 0 0] 29)) w1.heap.size (rlA 0 (.slice none 0 0)) 29 := blk_new _ _ _ _ rfl
    have k0 : W2.cell? ⟨w1.heap.size, 0, none⟩ = some (.int .i64 z) := X8.cell rfl
    have k1 : W2.cell? ⟨w1.heap.size, 1, none⟩ = some (.slice sp n cp) := X8.cell rfl
    clear b1 b0 z0 x0
    have X6 : Blk W2 w.heap.size (rlA 0 (.slice none 0 0)) 29 := X6'
    obtain ⟨W9, hW9, Y9, B9⟩ : ∃ W9, W2.setRow w.heap.size (rlA z (.slice sp n cp)) = W9 ∧ Blk W9 w.heap.size (rlA z (.slice sp n cp)) 29 ∧ Below w.heap.size w W9 := ⟨_, rfl, Blk.setRow X6 _, below_setRow B2 _ _ (Nat.le_refl _)⟩
    have s0 : W9.cell? ⟨w.heap.size, 0, none⟩ = some (.int .i64 z) := Y9.cell rfl
    have s1 : W9.cell? ⟨w.heap.size, 1, none⟩ = some ((.slice sp n cp)) := Y9.cell rfl
    have HB9 : Hid _ := B9
    have HY9 : Hid _ := Y9
    clear B9 Y9
    go_wp2_with (first | ((with_reducible refine st_row (ty := 29) (cs' := rlA z (.slice sp n cp)) X8n (rlA_info _ _) (rlA_same _ _ _ _) (rlA_one _ _ _ _) hW2 ?_ ?_ ?_); rfl; rfl) | ((with_reducible refine st_row (ty := 29) (cs' := rlA z (.slice sp n cp)) X6 (rlA_info _ _) (rlA_same _ _ _ _) (rlA_one _ _ _ _) hW9 ?_ ?_ ?_); rfl; rfl))
    try simp only [Exit.inBlock, Exit.then]
    refine bodyPost_ret (by simp [results, Tryd.results15, go_sem, s0, s1]; rfl) rfl ?_
    exact ⟨HB9.out, Or.inl ⟨by rw [HE.out]; decide, _, _, _, _, by rw [HE.out]⟩⟩
  obtain ⟨n1, n2, n3, n4⟩ := hnum
  obtain ⟨cn, rfl⟩ := Int.eq_ofNat_of_zero_le (show 0 ≤ c by omega)
  obtain ⟨g, rfl⟩ := Int.eq_ofNat_of_zero_le (show 0 ≤ gi by omega)
  rw [Int.toNat_natCast]
  have HNW : Hid _ := newref_ok (cn : Int) (g : Int) W0 (by omega) (by omega) (by omega) (by omega)
  rw [Int.toNat_natCast, Z0] at HNW
  obtain ⟨pv, cpv, hpv⟩ := hv.len
  have HV : Hid (Rcs w v L) := hv
  have HX0 : Hid (Blk W0 w.heap.size (rlA 0 (.slice none 0 0)) 29 ∧ Below w.heap.size w W0 ∧ W0.heap.size = w.heap.size + 1) := ⟨X0, B0, Z0⟩
  clear X0 B0 Z0 hv
  subst hpv
  go_enter Tryd.func15, Tryd.ntmps15
  go_wp2_with fail
  refine Calls.mono HNW.out ?_
  rintro e w1 ⟨q, cap, rfl, R1, b1⟩
  rw [← HX0.out.2.2] at b1
  obtain ⟨W2, hW2, HM2⟩ : ∃ W2, (w1.alloc (.cells #[.int .i64 0, .slice none 0 0] 29)).setRow w1.heap.size (rlA g (.slice (some ⟨q, 0, none⟩) cn cap)) = W2 ∧ Hid (Ofm w W2 w1.heap.size q cap g (List.replicate cn Kt.zero)) := by
    obtain ⟨x0, b0, z0⟩ := HX0.out
    have hz1 := b1.size
    have A1 : Blk (w1.alloc (.cells #[.int .i64 0, .slice none 0 0] 29)) w1.heap.size (rlA 0 (.slice none 0 0)) 29 := blk_new _ _ _ _ rfl
    have A2 : Blk (w1.alloc (.cells #[.int .i64 0, .slice none 0 0] 29)) w.heap.size (rlA 0 (.slice none 0 0)) 29 := (x0.below b1).alloc _
    have A3 : Below w.heap.size w w1 := b0.trans (b1.mono b0.size)
    have R1' : w1.ownsRow (w.heap.size + 1) 50 12 (.slice (some ⟨q, 0, none⟩) cn cap) (List.replicate cn Kt.zero).length (kL (List.replicate cn Kt.zero)) := R1
    have hq := World.ownsRow.lt R1' q rfl
    have B3 : Below w1.heap.size w1 ((w1.alloc (.cells #[.int .i64 0, .slice none 0 0] 29)).setRow w1.heap.size (rlA g (.slice (some ⟨q, 0, none⟩) cn cap))) := below_setRow ((Below.refl _ _).alloc (Nat.le_refl _) _) _ _ (Nat.le_refl _)
    refine ⟨_, rfl, A2.setRowOther _ (by omega), by rw [List.length_replicate]; exact Blk.setRow A1 _, by rw [List.length_replicate]; exact Rm.below R1 B3, below_setRow (A3.alloc A3.size _) _ _ A3.size, by omega⟩
  have X8n : Blk (w1.alloc (.cells #[.int .i64 0, .slice none 0 0] 29)) w1.heap.size (rlA 0 (.slice none 0 0)) 29 := blk_new _ _ _ _ rfl
  clear R1 HNW b1 HX0
  by_cases hlc : L.length = cn
  case neg =>
    have he : ofE cn g L = 92 := by unfold ofE; rw [if_neg (by omega), if_pos (by omega)]
    have HE : Hid _ := he
    have hdn : ((L.length : Int) != (cn : Int)) = true := by simp; omega
    clear he
    have X6 : Blk W2 w.heap.size (rlA 0 (.slice none 0 0)) 29 := HM2.out.x6
    obtain ⟨W9, hW9, Y9, B9⟩ : ∃ W9, W2.setRow w.heap.size (rlA 0 (.slice none 0 0)) = W9 ∧ Blk W9 w.heap.size (rlA 0 (.slice none 0 0)) 29 ∧ Below w.heap.size w W9 := ⟨_, rfl, Blk.setRow X6 _, below_setRow HM2.out.bl _ _ (Nat.le_refl _)⟩
    have s0 : W9.cell? ⟨w.heap.size, 0, none⟩ = some (.int .i64 0) := Y9.cell rfl
    have s1 : W9.cell? ⟨w.heap.size, 1, none⟩ = some ((.slice none 0 0)) := Y9.cell rfl
    have HB9 : Hid _ := B9
    have HY9 : Hid _ := Y9
    clear B9 Y9
    go_wp2_with (first | ((with_reducible refine st_row (ty := 29) (cs' := rlA g (.slice (some ⟨q, 0, none⟩) cn cap)) X8n (rlA_info _ _) (rlA_same _ _ _ _) (rlA_one _ _ _ _) hW2 ?_ ?_ ?_); rfl; rfl) | ((with_reducible refine st_row (ty := 29) (cs' := rlA 0 (.slice none 0 0)) X6 (rlA_info _ _) (rlA_same _ _ _ _) (rlA_one _ _ _ _) hW9 ?_ ?_ ?_); rfl; rfl))
    try simp only [Exit.inBlock, Exit.then]
    refine bodyPost_ret (by simp [results, Tryd.results15, go_sem, s0, s1]; rfl) rfl ?_
    exact ⟨HB9.out, Or.inl ⟨by rw [HE.out]; decide, _, _, _, _, by rw [HE.out]⟩⟩
  obtain ⟨l, hl⟩ : ∃ l, ofL g L = l := ⟨_, rfl⟩
  have hll : L.length = l.length := by rw [← hl, ofL_len]
  obtain rfl : cn = l.length := by omega
  have hpos : 0 < l.length := by omega
  have hlen : l.length ≤ 16 := by omega
  have hg1 : 1 ≤ g := by omega
  have hg4 : g ≤ 4 := by omega
  have HER : Hid (ofE l.length g L = if allR g 0 L = false then 92 else if overB l = true then 92 else 0) := by
    show _ = _
    unfold ofE
    rw [if_neg (by omega), if_neg (by omega), Int.toNat_natCast, hl]
  have HLL : Hid (ofL g L = l ∧ L.length = l.length) := ⟨hl, hll⟩
  obtain ⟨ml, hml⟩ : ∃ ml, l.map docK = ml := ⟨_, rfl⟩
  have hmll : ml.length = l.length := by rw [← hml, List.length_map]
  have HML : Hid (l.map docK = ml ∧ ml.length = l.length) := ⟨hml, hmll⟩
  obtain ⟨gr, off, hpe, HRC⟩ : ∃ gr off, pv = some ⟨gr, off, none⟩ ∧ Hid (∀ i, i < l.length → ∃ ky vl, w.cell? ⟨gr, off + i * 2, none⟩ = some (.string ky) ∧ w.cell? ⟨gr, off + i * 2 + 1, none⟩ = some (.string vl) ∧ vl.size ≤ maxLen ∧ docK (ktR vl g).1 = kAt ml i ∧ ∃ h : i < L.length, okR g i L[i] = (okV g vl && decide (ky = keyB i))) := by
    rcases HV.out with ⟨_, h0⟩ | ⟨gr, off, cap2, e, hc⟩
    · rw [h0] at hll
      simp at hll
      omega
    · injection e with e1 e2 e3
      refine ⟨gr, off, e1, fun i hi => ?_⟩
      have hi' : i < L.length := by omega
      obtain ⟨c0, c1, _, c3⟩ := hc i hi'
      have e1 : kAt ml i = docK (ktR L[i].dat g).1 := by rw [← hml, docs_at l hi, ← hl, ofL_at g hi']
      exact ⟨_, _, c0, c1, c3, e1.symm, hi', rfl⟩
  subst hpe
  rw [hll]
  have HM2' : Hid (Ofm w W2 w1.heap.size q cap g (ofTo ml 0)) := by
    have := HM2.out
    rw [ofTo_zero, hmll]
    exact this
  clear hl hll n1 n2 n3 n4 hz HM2 HV hml hlc hmll
  go_wp2_with ((with_reducible refine st_row (ty := 29) (cs' := rlA g (.slice (some ⟨q, 0, none⟩) l.length cap)) X8n (rlA_info _ _) (rlA_same _ _ _ _) (rlA_one _ _ _ _) hW2 ?_ ?_ ?_); rfl; rfl)
  clear hW2 X8n
  generalize w1.heap.size = b8 at *
  go_loopw [10] (fun i wr => ∃ k : Nat, k ≤ l.length ∧ i = .int .i64 k ∧ Hid (∀ j (h : j < L.length), j < k → okR g j L[j] = true) ∧ Hid (Ofm w wr b8 q cap g (ofTo ml k))) (fun i _ => l.length - (intOf i).toNat)
  case atStart => exact ⟨0, Nat.zero_le _, rfl, fun j h h2 => by omega, HM2'⟩
  case round =>
    clear HM2'
    obtain ⟨k, hk, rfl, HAL, HM⟩ := hrel
    by_cases hlt : k < l.length
    · have hd : decide ((k : Int) < (l.length : Int)) = true := by simp only [decide_eq_true_eq]; omega
      have hd' : (k : Int) < (l.length : Int) := by omega
      obtain ⟨kyb, val, q0, q1, hvs, hkt, hkL, hokr⟩ := HRC.out k hlt
      have hq0 := World.block_lt_of_cell? w _ q0
      have r1 : wr.cell? ⟨gr, off + k * 2 + 1, none⟩ = some (.string val) := (HM.out.bl.cell (World.block_lt_of_cell? w _ q1)).trans q1
      have HQ0 : Hid (w.cell? ⟨gr, off + k * 2, none⟩ = some (.string kyb) ∧ gr < w.heap.size) := ⟨q0, hq0⟩
      have HKD : Hid (docK (ktR val g).1 = kAt ml k) := hkt
      have HOK : Hid (∃ h : k < L.length, okR g k L[k] = (okV g val && decide (kyb = keyB k))) := ⟨hkL, hokr⟩
      have HRD : Hid (∀ wx, Calls Tryd.prog 50 #[.int .i64 g, .string val] wx fun e w' => ∃ kx : Kt, (okV g val = true → kx = kAt ml k) ∧ e = .returned (.tuple #[.agg #[.int .i64 (kx.n 0), .int .i64 (kx.n 1), .int .i64 (kx.n 2), .int .i64 (kx.n 3), .int .i64 (kx.n 4), .int .i64 (kx.n 5), .int .i64 (kx.n 6), .int .i64 (kx.n 7), .int .i64 (kx.n 8), .int .i64 (kx.n 9), .int .i64 (kx.n 10), .string kx.reply], .bool (okV g val)]) ∧ Below wx.heap.size wx w') := fun wx => (read_ref val g hg4 wx hvs).mono (by
        rintro e w' ⟨hb, ⟨ho, rfl⟩ | ⟨ho, kx, rfl⟩⟩
        · exact ⟨docK (ktR val g).1, fun _ => HKD.out, by rw [ho]; rfl, hb⟩
        · exact ⟨kx, (fun h => absurd (ho.symm.trans h) (by decide)), by rw [ho]; rfl, hb⟩)
      have HKY : Hid (∀ wx, Calls Tryd.prog 40 #[.int .i64 k] wx fun e w' => e = .returned (.string (keyB k)) ∧ Below wx.heap.size wx w') := fun wx => key_ref k wx (by omega)
      have HUS : Hid ((ofTo ml k).set k (kAt ml k) = ofTo ml (k + 1)) := ofTo_set (by have := HML.out.2; omega)
      have hol : (ofTo ml k).length = l.length := by rw [ofTo_len ml (by have := HML.out.2; omega)]; exact HML.out.2
      clear hokr hkt hvs q0 q1 hq0
      generalize keyB k = kb2 at *
      generalize okV g val = o1 at *
      generalize kAt ml k = kd at *
      go_wp2_with fail
      refine Calls.mono (HRD.out _) ?_
      rintro e w3 ⟨kx, hkx, rfl, b3⟩
      have HKX : Hid _ := hkx
      obtain ⟨W4, hW4, X4, B4⟩ : ∃ W4, (w3.alloc (.cells #[.int .i64 0, .int .i64 0, .int .i64 0, .int .i64 0, .int .i64 0, .int .i64 0, .int .i64 0, .int .i64 0, .int .i64 0, .int .i64 0, .int .i64 0, .string ⟨#[]⟩] 50)).setRow w3.heap.size #[.int .i64 (kx.n 0), .int .i64 (kx.n 1), .int .i64 (kx.n 2), .int .i64 (kx.n 3), .int .i64 (kx.n 4), .int .i64 (kx.n 5), .int .i64 (kx.n 6), .int .i64 (kx.n 7), .int .i64 (kx.n 8), .int .i64 (kx.n 9), .int .i64 (kx.n 10), .string kx.reply] = W4 ∧ Hid (Blk W4 w3.heap.size #[.int .i64 (kx.n 0), .int .i64 (kx.n 1), .int .i64 (kx.n 2), .int .i64 (kx.n 3), .int .i64 (kx.n 4), .int .i64 (kx.n 5), .int .i64 (kx.n 6), .int .i64 (kx.n 7), .int .i64 (kx.n 8), .int .i64 (kx.n 9), .int .i64 (kx.n 10), .string kx.reply] 50) ∧ Hid (Below wr.heap.size wr W4) := by
        have A1 : Blk (w3.alloc (.cells #[.int .i64 0, .int .i64 0, .int .i64 0, .int .i64 0, .int .i64 0, .int .i64 0, .int .i64 0, .int .i64 0, .int .i64 0, .int .i64 0, .int .i64 0, .string ⟨#[]⟩] 50)) w3.heap.size #[.int .i64 0, .int .i64 0, .int .i64 0, .int .i64 0, .int .i64 0, .int .i64 0, .int .i64 0, .int .i64 0, .int .i64 0, .int .i64 0, .int .i64 0, .string ⟨#[]⟩] 50 := blk_new _ _ _ _ rfl
        exact ⟨_, rfl, Blk.setRow A1 _, below_setRow (b3.alloc b3.size _) _ _ b3.size⟩
      have X4n : Blk (w3.alloc (.cells #[.int .i64 0, .int .i64 0, .int .i64 0, .int .i64 0, .int .i64 0, .int .i64 0, .int .i64 0, .int .i64 0, .int .i64 0, .int .i64 0, .int .i64 0, .string ⟨#[]⟩] 50)) w3.heap.size #[.int .i64 0, .int .i64 0, .int .i64 0, .int .i64 0, .int .i64 0, .int .i64 0, .int .i64 0, .int .i64 0, .int .i64 0, .int .i64 0, .int .i64 0, .string ⟨#[]⟩] 50 := blk_new _ _ _ _ rfl
      have i1 : (Tryd.prog.info? 50).map (·.size) = some (#[.int .i64 (kx.n 0), .int .i64 (kx.n 1), .int .i64 (kx.n 2), .int .i64 (kx.n 3), .int .i64 (kx.n 4), .int .i64 (kx.n 5), .int .i64 (kx.n 6), .int .i64 (kx.n 7), .int .i64 (kx.n 8), .int .i64 (kx.n 9), .int .i64 (kx.n 10), .string kx.reply] : Array Value).size := infoRaS
      have i2 : (#[.int .i64 (kx.n 0), .int .i64 (kx.n 1), .int .i64 (kx.n 2), .int .i64 (kx.n 3), .int .i64 (kx.n 4), .int .i64 (kx.n 5), .int .i64 (kx.n 6), .int .i64 (kx.n 7), .int .i64 (kx.n 8), .int .i64 (kx.n 9), .int .i64 (kx.n 10), .string kx.reply] : Array Value).all (·.oneCell') = true := one12R _ _ _ _ _ _ _ _ _ _ _ _
      have i3 : (#[.int .i64 0, .int .i64 0, .int .i64 0, .int .i64 0, .int .i64 0, .int .i64 0, .int .i64 0, .int .i64 0, .int .i64 0, .int .i64 0, .int .i64 0, .string ⟨#[]⟩] : Array Value).size = (#[.int .i64 (kx.n 0), .int .i64 (kx.n 1), .int .i64 (kx.n 2), .int .i64 (kx.n 3), .int .i64 (kx.n 4), .int .i64 (kx.n 5), .int .i64 (kx.n 6), .int .i64 (kx.n 7), .int .i64 (kx.n 8), .int .i64 (kx.n 9), .int .i64 (kx.n 10), .string kx.reply] : Array Value).size := rfl
      have HBK : Hid (wr.heap.size ≤ w3.heap.size) := b3.size
      have HC0 : Hid (∀ wx, Below W4.heap.size W4 wx → wx.cell? ⟨gr, off + k * 2, none⟩ = some (.string kyb)) := fun wx hx => by
        have hb : Below w.heap.size w wx := HM.out.bl.trans ((B4.out.trans (hx.mono B4.out.size)).mono HM.out.bl.size)
        exact (hb.cell (p := ⟨gr, off + k * 2, none⟩) HQ0.out.2).trans HQ0.out.1
      clear b3 hkx
      go_upto_region 10 with ((with_reducible refine st_row (ty := 50) (cs' := #[.int .i64 (kx.n 0), .int .i64 (kx.n 1), .int .i64 (kx.n 2), .int .i64 (kx.n 3), .int .i64 (kx.n 4), .int .i64 (kx.n 5), .int .i64 (kx.n 6), .int .i64 (kx.n 7), .int .i64 (kx.n 8), .int .i64 (kx.n 9), .int .i64 (kx.n 10), .string kx.reply]) X4n i1 i3 i2 hW4 ?_ ?_ ?_); rfl; rfl)
      clear hW4 X4n i1 i2 i3 r1
      generalize w3.heap.size = kb at *
      obtain ⟨ob, hob⟩ : ∃ ob, (!(o1 && decide (kyb = kb2))) = ob := ⟨_, rfl⟩
      go_cut [54] (fun bv wx => bv = .bool ob ∧ Below W4.heap.size W4 wx)
      case first =>
        rename_i J9 K9 aJ aK
        refine wp_region_held_drew (S := (fun wx => Below W4.heap.size W4 wx)) (by kernel_rfl) ((Below.refl _ _).drew) (fun hS => ?_)
        cases o1
        · obtain rfl : ob = true := by rw [← hob]; rfl
          refine wpAnyH_take (i := 0) (v := (.bool false)) rfl (by kernel_rfl) (by kernel_rfl) (by kernel_rfl) (fun _ _ _ h => h) (Or.inl ⟨by kernel_rfl, fun wx hS => by go_simp⟩) hS ?_
          refine wpAnyH_take (i := 1) (v := (.bool true)) rfl (by kernel_rfl) (by kernel_rfl) (by kernel_rfl) (fun _ _ _ h => h) (Or.inl ⟨by kernel_rfl, fun wx hS => by go_simp⟩) hS ?_
          refine wpAnyH_take (i := 2) (v := (.bool true)) rfl (by kernel_rfl) (by kernel_rfl) (by kernel_rfl) (fun _ _ _ h => h) (Or.inl ⟨by kernel_rfl, fun wx hS => by go_simp⟩) hS ?_
          refine wpAnyH_take (i := 3) (v := undef) rfl (by kernel_rfl) (by kernel_rfl) (by kernel_rfl) (fun _ _ _ h => h) (Or.inr ⟨by kernel_rfl, rfl⟩) hS ?_
          refine wpAnyH_take (i := 4) (v := undef) rfl (by kernel_rfl) (by kernel_rfl) (by kernel_rfl) (fun _ _ _ h => h) (Or.inr ⟨by kernel_rfl, rfl⟩) hS ?_
          refine wpAnyH_take (i := 5) (v := undef) rfl (by kernel_rfl) (by kernel_rfl) (by kernel_rfl) (fun _ _ _ h => h) (Or.inr ⟨by kernel_rfl, rfl⟩) hS ?_
          refine wpAnyH_take (i := 6) (v := undef) rfl (by kernel_rfl) (by kernel_rfl) (by kernel_rfl) (fun _ _ _ h => h) (Or.inr ⟨by kernel_rfl, rfl⟩) hS ?_
          refine wpAnyH_take (i := 7) (v := undef) rfl (by kernel_rfl) (by kernel_rfl) (by kernel_rfl) (fun _ _ _ h => h) (Or.inr ⟨by kernel_rfl, rfl⟩) hS ?_
          refine wpAnyH_take (i := 8) (v := undef) rfl (by kernel_rfl) (by kernel_rfl) (by kernel_rfl) (fun _ _ _ h => h) (Or.inr ⟨by kernel_rfl, rfl⟩) hS ?_
          refine wpAnyH_take (i := 9) (v := undef) rfl (by kernel_rfl) (by kernel_rfl) (by kernel_rfl) (fun _ _ _ h => h) (Or.inr ⟨by kernel_rfl, rfl⟩) hS ?_
          refine wpAnyH_take (i := 10) (v := undef) rfl (by kernel_rfl) (by kernel_rfl) (by kernel_rfl) (fun _ _ _ h => h) (Or.inr ⟨by kernel_rfl, rfl⟩) hS ?_
          refine wpAnyH_take (i := 11) (v := (.bool true)) rfl (by kernel_rfl) (by kernel_rfl) (by kernel_rfl) (fun _ _ _ h => h) (Or.inl ⟨by kernel_rfl, fun wx hS => by go_simp⟩) hS ?_
          refine wpAnyH_done (by kernel_rfl) ?_ _
          go_simp
          refine aK _ _ ?_
          go_meet
          exact ⟨rfl, hS⟩
        · by_cases hky : kyb = kb2
          · obtain rfl : ob = false := by rw [← hob, hky]; simp
            have hke : kyb.toList = kb2.toList := by rw [hky]
            clear hky
            refine wpAnyH_take (i := 0) (v := (.bool true)) rfl (by kernel_rfl) (by kernel_rfl) (by kernel_rfl) (fun _ _ _ h => h) (Or.inl ⟨by kernel_rfl, fun wx hS => by go_simp⟩) hS ?_
            refine wpAnyH_take (i := 1) (v := (.bool false)) rfl (by kernel_rfl) (by kernel_rfl) (by kernel_rfl) (fun _ _ _ h => h) (Or.inl ⟨by kernel_rfl, fun wx hS => by go_simp⟩) hS ?_
            refine wpAnyH_take (i := 2) (v := (.bool false)) rfl (by kernel_rfl) (by kernel_rfl) (by kernel_rfl) (fun _ _ _ h => h) (Or.inl ⟨by kernel_rfl, fun wx hS => by go_simp⟩) hS ?_
            refine wpAnyH_take (i := 3) (v := (.slice (some ⟨gr, off, none⟩) l.length cpv)) rfl (by kernel_rfl) (by kernel_rfl) (by kernel_rfl) (fun _ _ _ h => h) (Or.inl ⟨by kernel_rfl, fun wx hS => by go_simp⟩) hS ?_
            refine wpAnyH_take (i := 4) (v := (.int .i64 k)) rfl (by kernel_rfl) (by kernel_rfl) (by kernel_rfl) (fun _ _ _ h => h) (Or.inl ⟨by kernel_rfl, fun wx hS => by go_simp⟩) hS ?_
            refine wpAnyH_take (i := 5) (v := (.pointer (some ⟨gr, off + k * 2, none⟩))) rfl (by kernel_rfl) (by kernel_rfl) (by kernel_rfl) (fun _ _ _ h => h) (Or.inl ⟨by kernel_rfl, fun wx hS => by go_simp⟩) hS ?_
            refine wpAnyH_take (i := 6) (v := (.pointer (some ⟨gr, off + k * 2, none⟩))) rfl (by kernel_rfl) (by kernel_rfl) (by kernel_rfl) (fun _ _ _ h => h) (Or.inl ⟨by kernel_rfl, fun wx hS => by go_simp⟩) hS ?_
            refine wpAnyH_take (i := 7) (v := (.string kyb)) rfl (by kernel_rfl) (by kernel_rfl) (by kernel_rfl) (fun _ _ _ h => h) (Or.inl ⟨by kernel_rfl, fun wx hS => by have e0 := HC0.out wx hS; go_simp⟩) hS ?_
            refine wpAnyH_take (i := 8) (v := (.int .i64 k)) rfl (by kernel_rfl) (by kernel_rfl) (by kernel_rfl) (fun _ _ _ h => h) (Or.inl ⟨by kernel_rfl, fun wx hS => by go_simp⟩) hS ?_
            refine wpAnyH_ready (rs := [9]) (by kernel_rfl) (by simp) ?_
            refine AllReadyH.cons rfl (fun K hK => ?_) AllReadyH.nil
            rw [if_pos (by kernel_rfl)]
            go_simp
            refine Calls.mono (HKY.out _) ?_
            rintro e9 q9 ⟨rfl, bq⟩
            refine hK.out _ _ (hS.trans (bq.mono hS.size)) (fun hS => ?_)
            clear hK
            refine wpAnyH_take (i := 10) (v := (.bool false)) rfl (by kernel_rfl) (by kernel_rfl) (by kernel_rfl) (fun _ _ _ h => h) (Or.inl ⟨by kernel_rfl, fun wx hS => by go_simp⟩) hS ?_
            refine wpAnyH_take (i := 11) (v := (.bool false)) rfl (by kernel_rfl) (by kernel_rfl) (by kernel_rfl) (fun _ _ _ h => h) (Or.inl ⟨by kernel_rfl, fun wx hS => by go_simp⟩) hS ?_
            refine wpAnyH_done (by kernel_rfl) ?_ _
            go_simp
            refine aK _ _ ?_
            go_meet
            exact ⟨rfl, hS⟩
          · obtain rfl : ob = true := by rw [← hob]; simp [hky]
            have hke : ¬ kyb.toList = kb2.toList := by simpa using byt_ne hky
            clear hky
            refine wpAnyH_take (i := 0) (v := (.bool true)) rfl (by kernel_rfl) (by kernel_rfl) (by kernel_rfl) (fun _ _ _ h => h) (Or.inl ⟨by kernel_rfl, fun wx hS => by go_simp⟩) hS ?_
            refine wpAnyH_take (i := 1) (v := (.bool false)) rfl (by kernel_rfl) (by kernel_rfl) (by kernel_rfl) (fun _ _ _ h => h) (Or.inl ⟨by kernel_rfl, fun wx hS => by go_simp⟩) hS ?_
            refine wpAnyH_take (i := 2) (v := (.bool false)) rfl (by kernel_rfl) (by kernel_rfl) (by kernel_rfl) (fun _ _ _ h => h) (Or.inl ⟨by kernel_rfl, fun wx hS => by go_simp⟩) hS ?_
            refine wpAnyH_take (i := 3) (v := (.slice (some ⟨gr, off, none⟩) l.length cpv)) rfl (by kernel_rfl) (by kernel_rfl) (by kernel_rfl) (fun _ _ _ h => h) (Or.inl ⟨by kernel_rfl, fun wx hS => by go_simp⟩) hS ?_
            refine wpAnyH_take (i := 4) (v := (.int .i64 k)) rfl (by kernel_rfl) (by kernel_rfl) (by kernel_rfl) (fun _ _ _ h => h) (Or.inl ⟨by kernel_rfl, fun wx hS => by go_simp⟩) hS ?_
            refine wpAnyH_take (i := 5) (v := (.pointer (some ⟨gr, off + k * 2, none⟩))) rfl (by kernel_rfl) (by kernel_rfl) (by kernel_rfl) (fun _ _ _ h => h) (Or.inl ⟨by kernel_rfl, fun wx hS => by go_simp⟩) hS ?_
            refine wpAnyH_take (i := 6) (v := (.pointer (some ⟨gr, off + k * 2, none⟩))) rfl (by kernel_rfl) (by kernel_rfl) (by kernel_rfl) (fun _ _ _ h => h) (Or.inl ⟨by kernel_rfl, fun wx hS => by go_simp⟩) hS ?_
            refine wpAnyH_take (i := 7) (v := (.string kyb)) rfl (by kernel_rfl) (by kernel_rfl) (by kernel_rfl) (fun _ _ _ h => h) (Or.inl ⟨by kernel_rfl, fun wx hS => by have e0 := HC0.out wx hS; go_simp⟩) hS ?_
            refine wpAnyH_take (i := 8) (v := (.int .i64 k)) rfl (by kernel_rfl) (by kernel_rfl) (by kernel_rfl) (fun _ _ _ h => h) (Or.inl ⟨by kernel_rfl, fun wx hS => by go_simp⟩) hS ?_
            refine wpAnyH_ready (rs := [9]) (by kernel_rfl) (by simp) ?_
            refine AllReadyH.cons rfl (fun K hK => ?_) AllReadyH.nil
            rw [if_pos (by kernel_rfl)]
            go_simp
            refine Calls.mono (HKY.out _) ?_
            rintro e9 q9 ⟨rfl, bq⟩
            refine hK.out _ _ (hS.trans (bq.mono hS.size)) (fun hS => ?_)
            clear hK
            refine wpAnyH_take (i := 10) (v := (.bool true)) rfl (by kernel_rfl) (by kernel_rfl) (by kernel_rfl) (fun _ _ _ h => h) (Or.inl ⟨by kernel_rfl, fun wx hS => by go_simp⟩) hS ?_
            refine wpAnyH_take (i := 11) (v := (.bool true)) rfl (by kernel_rfl) (by kernel_rfl) (by kernel_rfl) (fun _ _ _ h => h) (Or.inl ⟨by kernel_rfl, fun wx hS => by go_simp⟩) hS ?_
            refine wpAnyH_done (by kernel_rfl) ?_ _
            go_simp
            refine aK _ _ ?_
            go_meet
            exact ⟨rfl, hS⟩
      case rest =>
        obtain ⟨rfl, hcb⟩ := hcut
        have HBc : Hid (Below wr.heap.size wr wc) := B4.out.trans (hcb.mono B4.out.size)
        have HMc : Hid (Ofm w wc b8 q cap g (ofTo ml k)) := HM.out.below HBc.out
        have HXc : Hid (Blk wc kb #[.int .i64 (kx.n 0), .int .i64 (kx.n 1), .int .i64 (kx.n 2), .int .i64 (kx.n 3), .int .i64 (kx.n 4), .int .i64 (kx.n 5), .int .i64 (kx.n 6), .int .i64 (kx.n 7), .int .i64 (kx.n 8), .int .i64 (kx.n 9), .int .i64 (kx.n 10), .string kx.reply] 50) := Blk.below X4.out hcb
        cases ob
        case true =>
          have hbad : ofE l.length g L = 92 := by
            rw [HER.out]
            obtain ⟨h1, h2⟩ := HOK.out
            rw [if_pos (allR_no h1 (by rw [h2]; revert hob; cases (o1 && decide (kyb = kb2)) <;> simp))]
          have HBD : Hid _ := hbad
          clear hbad hob hcb
          have X6 : Blk wc w.heap.size (rlA 0 (.slice none 0 0)) 29 := HMc.out.x6
          obtain ⟨W9, hW9, Y9, B9⟩ : ∃ W9, wc.setRow w.heap.size (rlA 0 (.slice none 0 0)) = W9 ∧ Blk W9 w.heap.size (rlA 0 (.slice none 0 0)) 29 ∧ Below w.heap.size w W9 := ⟨_, rfl, Blk.setRow X6 _, below_setRow HMc.out.bl _ _ (Nat.le_refl _)⟩
          have s0 : W9.cell? ⟨w.heap.size, 0, none⟩ = some (.int .i64 0) := Y9.cell rfl
          have s1 : W9.cell? ⟨w.heap.size, 1, none⟩ = some ((.slice none 0 0)) := Y9.cell rfl
          have HB9 : Hid _ := B9
          have HY9 : Hid _ := Y9
          clear B9 Y9
          go_wp2_with ((with_reducible refine st_row (ty := 29) (cs' := rlA 0 (.slice none 0 0)) X6 (rlA_info _ _) (rlA_same _ _ _ _) (rlA_one _ _ _ _) hW9 ?_ ?_ ?_); rfl; rfl)
          try simp only [Exit.inBlock, Exit.then]
          refine bodyPost_ret (by simp [results, Tryd.results15, go_sem, s0, s1]; rfl) rfl ?_
          exact ⟨HB9.out, Or.inl ⟨by rw [HBD.out]; decide, _, _, _, _, by rw [HBD.out]⟩⟩
        have ho12 : o1 = true := by
          revert hob
          cases o1 <;> simp
        have HNX : Hid (∀ j (h : j < L.length), j < k + 1 → okR g j L[j] = true) := fun j h h2 => by
          by_cases e : j = k
          · subst e
            obtain ⟨h1, h3⟩ := HOK.out
            rw [h3]
            revert hob
            cases (o1 && decide (kyb = kb2)) <;> simp
          · exact HAL.out j h (by omega)
        obtain rfl : kx = kd := HKX.out ho12
        obtain ⟨W5, hW5⟩ : ∃ W5, wc.setCells q (k * 12) (#[.int .i64 (kx.n 0), .int .i64 (kx.n 1), .int .i64 (kx.n 2), .int .i64 (kx.n 3), .int .i64 (kx.n 4), .int .i64 (kx.n 5), .int .i64 (kx.n 6), .int .i64 (kx.n 7), .int .i64 (kx.n 8), .int .i64 (kx.n 9), .int .i64 (kx.n 10), .string kx.reply] : Array Value).toList = W5 := ⟨_, rfl⟩
        have HMf : Hid (Ofm w W5 b8 q cap g (ofTo ml (k + 1))) := by
          have := HMc.out.put (i := k) (by rw [hol]; exact hlt) kx
          rw [HUS.out] at this
          rw [← hW5]
          exact this
        have hth : wc.there q (k * 12) (#[.int .i64 (kx.n 0), .int .i64 (kx.n 1), .int .i64 (kx.n 2), .int .i64 (kx.n 3), .int .i64 (kx.n 4), .int .i64 (kx.n 5), .int .i64 (kx.n 6), .int .i64 (kx.n 7), .int .i64 (kx.n 8), .int .i64 (kx.n 9), .int .i64 (kx.n 10), .string kx.reply] : Array Value).size := HMc.out.there (by rw [hol]; exact hlt)
        have i1 : (Tryd.prog.info? 50).map (·.size) = some (#[.int .i64 (kx.n 0), .int .i64 (kx.n 1), .int .i64 (kx.n 2), .int .i64 (kx.n 3), .int .i64 (kx.n 4), .int .i64 (kx.n 5), .int .i64 (kx.n 6), .int .i64 (kx.n 7), .int .i64 (kx.n 8), .int .i64 (kx.n 9), .int .i64 (kx.n 10), .string kx.reply] : Array Value).size := infoRaS
        have i2 : (#[.int .i64 (kx.n 0), .int .i64 (kx.n 1), .int .i64 (kx.n 2), .int .i64 (kx.n 3), .int .i64 (kx.n 4), .int .i64 (kx.n 5), .int .i64 (kx.n 6), .int .i64 (kx.n 7), .int .i64 (kx.n 8), .int .i64 (kx.n 9), .int .i64 (kx.n 10), .string kx.reply] : Array Value).all (·.oneCell') = true := one12R _ _ _ _ _ _ _ _ _ _ _ _
        have t8 : wc.cell? ⟨b8, 1, none⟩ = some (.slice (some ⟨q, 0, none⟩) l.length cap) := HMc.out.x8.cell (by rw [hol]; rfl)
        have m0 : wc.cell? ⟨kb, 0, none⟩ = some (.int .i64 (kx.n 0)) := HXc.out.cell rfl
        have m1 : wc.cell? ⟨kb, 1, none⟩ = some (.int .i64 (kx.n 1)) := HXc.out.cell rfl
        have m2 : wc.cell? ⟨kb, 2, none⟩ = some (.int .i64 (kx.n 2)) := HXc.out.cell rfl
        have m3 : wc.cell? ⟨kb, 3, none⟩ = some (.int .i64 (kx.n 3)) := HXc.out.cell rfl
        have m4 : wc.cell? ⟨kb, 4, none⟩ = some (.int .i64 (kx.n 4)) := HXc.out.cell rfl
        have m5 : wc.cell? ⟨kb, 5, none⟩ = some (.int .i64 (kx.n 5)) := HXc.out.cell rfl
        have m6 : wc.cell? ⟨kb, 6, none⟩ = some (.int .i64 (kx.n 6)) := HXc.out.cell rfl
        have m7 : wc.cell? ⟨kb, 7, none⟩ = some (.int .i64 (kx.n 7)) := HXc.out.cell rfl
        have m8 : wc.cell? ⟨kb, 8, none⟩ = some (.int .i64 (kx.n 8)) := HXc.out.cell rfl
        have m9 : wc.cell? ⟨kb, 9, none⟩ = some (.int .i64 (kx.n 9)) := HXc.out.cell rfl
        have m10 : wc.cell? ⟨kb, 10, none⟩ = some (.int .i64 (kx.n 10)) := HXc.out.cell rfl
        have m11 : wc.cell? ⟨kb, 11, none⟩ = some (.string kx.reply) := HXc.out.cell rfl
        clear HMc HXc HBc hcb hob ho12 HM HAL
        go_wp2_with ((with_reducible refine st_midR (ty := 50) (k := q) (o := k * 12) (cs' := #[.int .i64 (kx.n 0), .int .i64 (kx.n 1), .int .i64 (kx.n 2), .int .i64 (kx.n 3), .int .i64 (kx.n 4), .int .i64 (kx.n 5), .int .i64 (kx.n 6), .int .i64 (kx.n 7), .int .i64 (kx.n 8), .int .i64 (kx.n 9), .int .i64 (kx.n 10), .string kx.reply]) hth i1 i2 hW5 ?_ ?_ ?_); rfl; rfl)
        exact ⟨⟨k + 1, by omega, by norm_cast, HNX.out, HMf.out⟩, by simp [intOf]; omega⟩
    have hd : decide ((k : Int) < (l.length : Int)) = false := by simp only [decide_eq_false_iff_not]; omega
    have hd' : ¬ (k : Int) < (l.length : Int) := by omega
    obtain rfl : k = l.length := by omega
    have hal : AllR g L L.length := fun i hi _ => HAL.out i hi (by have := HLL.out.2; omega)
    have hab : allR g 0 L = true := (allR_iff g L 0).2 (fun j hj => by rw [Nat.zero_add]; exact hal j hj hj)
    have hwk : Wk l := by
      obtain ⟨h1, h2⟩ := HLL.out
      rw [← h1]
      exact ofL_wk hg4 hal (by omega) (by omega)
    have HWK : Hid (Wk l ∧ allR g 0 L = true) := ⟨hwk, hab⟩
    have hnone : ∀ z, g < z → z ≤ 4 → tot l (apf z) = 0 := fun z h1 h2 => tot_none (fun i hi => by
      obtain ⟨e1, e2⟩ := HLL.out
      have hi' : i < L.length := by omega
      rw [← e1, ofL_at g hi']
      have := (ktR_canon hg4 (okV_sound (okR_is (hal i hi' hi')).1).1).2.none (z + 1) (by omega) (by omega)
      unfold apf
      rw [if_neg (by omega)]
      exact this.1)
    have HNO : Hid _ := hnone
    have HSI : Hid (Sim ml l) := by
      have := docs_sim l
      rw [HML.out.1] at this
      exact this
    have HM3 : Hid (Ofm w wr b8 q cap g ml) := by
      have := HM.out
      have e : ofTo ml l.length = ml := by rw [← HML.out.2]; exact ofTo_all ml
      rw [e] at this
      exact this
    clear hal hab hwk hnone HM HAL
    go_wp2_with fail
    go_loopw [13] (fun i wr => ∃ p : Nat, p ≤ g + 1 ∧ i = .int .i64 p ∧ Hid (∀ z, z < p → tot l (apf z) ≤ 1099511627776) ∧ Hid (Ofm w wr b8 q cap g ml)) (fun i _ => 6 - (intOf i).toNat)
    case atStart => exact ⟨0, by omega, rfl, fun z hz => by omega, HM3⟩
    case round =>
      clear HM3
      obtain ⟨p, hp, rfl, HP, HM⟩ := hrel
      have x80 : wr.cell? ⟨b8, 0, none⟩ = some (.int .i64 g) := HM.out.x8.cell rfl
      have x81 : wr.cell? ⟨b8, 1, none⟩ = some (.slice (some ⟨q, 0, none⟩) ml.length cap) := HM.out.x8.cell rfl
      by_cases hpg : p ≤ g
      · have hd1 : decide ((p : Int) ≤ g) = true := by simp only [decide_eq_true_eq]; omega
        have HT : Hid _ := totalW_ref wr _ (p : Int) p rfl HM.out.rm HSI.out HWK.out.1 (show p ≤ 4 by omega) (g := g)
        by_cases hle : tot l (apf p) ≤ 1099511627776
        · have hgt : decide ((1099511627776 : Int) < tot l (apf p)) = false := decide_eq_false (by omega)
          have hgt2 : decide (tot l (apf p) > 1099511627776) = false := hgt
          have HPf : Hid (∀ z, z < p + 1 → tot l (apf z) ≤ 1099511627776) := fun z hz => by
            by_cases e : z = p
            · rw [e]; exact hle
            · exact HP.out z (by omega)
          clear hle HP
          generalize tot l (apf p) = tt at *
          go_wp2_with fail
          refine Calls.mono HT.out ?_
          rintro e w5 ⟨rfl, b5⟩
          have HMf : Hid (Ofm w w5 b8 q cap g ml) := HM.out.below b5
          clear b5 HM HT x80 x81
          go_wp2
          exact ⟨⟨p + 1, by omega, by norm_cast, HPf.out, HMf.out⟩, by simp [intOf]; omega⟩
        · have hgt : decide ((1099511627776 : Int) < tot l (apf p)) = true := decide_eq_true (by omega)
          have hgt2 : decide (tot l (apf p) > 1099511627776) = true := hgt
          have hbad : ofE l.length g L = 92 := by rw [HER.out, HWK.out.2, over_part (show p ≤ 4 by omega) (by omega)]; rfl
          have HBD : Hid _ := hbad
          clear hbad hle HP
          generalize tot l (apf p) = tt at *
          go_wp2_with fail
          refine Calls.mono HT.out ?_
          rintro e w5 ⟨rfl, b5⟩
          have HMf : Hid (Ofm w w5 b8 q cap g ml) := HM.out.below b5
          clear b5 HM HT x80 x81
          have X6 : Blk w5 w.heap.size (rlA 0 (.slice none 0 0)) 29 := HMf.out.x6
          obtain ⟨W9, hW9, Y9, B9⟩ : ∃ W9, w5.setRow w.heap.size (rlA 0 (.slice none 0 0)) = W9 ∧ Blk W9 w.heap.size (rlA 0 (.slice none 0 0)) 29 ∧ Below w.heap.size w W9 := ⟨_, rfl, Blk.setRow X6 _, below_setRow HMf.out.bl _ _ (Nat.le_refl _)⟩
          have s0 : W9.cell? ⟨w.heap.size, 0, none⟩ = some (.int .i64 0) := Y9.cell rfl
          have s1 : W9.cell? ⟨w.heap.size, 1, none⟩ = some ((.slice none 0 0)) := Y9.cell rfl
          have HB9 : Hid _ := B9
          have HY9 : Hid _ := Y9
          clear B9 Y9
          go_wp2_with ((with_reducible refine st_row (ty := 29) (cs' := rlA 0 (.slice none 0 0)) X6 (rlA_info _ _) (rlA_same _ _ _ _) (rlA_one _ _ _ _) hW9 ?_ ?_ ?_); rfl; rfl)
          try simp only [Exit.inBlock, Exit.then]
          refine bodyPost_ret (by simp [results, Tryd.results15, go_sem, s0, s1]; rfl) rfl ?_
          exact ⟨HB9.out, Or.inl ⟨by rw [HBD.out]; decide, _, _, _, _, by rw [HBD.out]⟩⟩
      · have hd1 : decide ((p : Int) ≤ g) = false := by simp only [decide_eq_false_iff_not]; omega
        have he0 : ofE l.length g L = 0 := by
          rw [HER.out, HWK.out.2, over_parts (fun z hz => by
            by_cases e : z ≤ g
            · exact HP.out z (by omega)
            · rw [HNO.out z (by omega) hz]; decide)]
          rfl
        have HE0 : Hid _ := he0
        have HRM : Hid (Rm wr (w.heap.size + 1) (.slice (some ⟨q, 0, none⟩) ml.length cap) ml) := HM.out.rm
        clear he0 HP
        have X6 : Blk wr w.heap.size (rlA 0 (.slice none 0 0)) 29 := HM.out.x6
        obtain ⟨W9, hW9, Y9, B9⟩ : ∃ W9, wr.setRow w.heap.size (rlA g (.slice (some ⟨q, 0, none⟩) ml.length cap)) = W9 ∧ Blk W9 w.heap.size (rlA g (.slice (some ⟨q, 0, none⟩) ml.length cap)) 29 ∧ Below w.heap.size w W9 := ⟨_, rfl, Blk.setRow X6 _, below_setRow HM.out.bl _ _ (Nat.le_refl _)⟩
        have s0 : W9.cell? ⟨w.heap.size, 0, none⟩ = some (.int .i64 g) := Y9.cell rfl
        have s1 : W9.cell? ⟨w.heap.size, 1, none⟩ = some ((.slice (some ⟨q, 0, none⟩) ml.length cap)) := Y9.cell rfl
        have HB9 : Hid _ := B9
        have HY9 : Hid _ := Y9
        clear B9 Y9
        go_wp2_with ((with_reducible refine st_row (ty := 29) (cs' := rlA g (.slice (some ⟨q, 0, none⟩) ml.length cap)) X6 (rlA_info _ _) (rlA_same _ _ _ _) (rlA_one _ _ _ _) hW9 ?_ ?_ ?_); rfl; rfl)
        try simp only [Exit.inBlock, Exit.then]
        refine bodyPost_ret (by simp [results, Tryd.results15, go_sem, s0, s1]; rfl) rfl ?_
        exact ⟨HB9.out, Or.inr ⟨HE0.out, q, cap, by rw [HLL.out.1, HML.out.1], by rw [HLL.out.1, HML.out.1, ← hW9]; exact HRM.out.offR (off_setRow _ _ _) (Nat.lt_succ_self _)⟩⟩
end Go.Proofs.YtmcafgmjfgfaeaaDoor
