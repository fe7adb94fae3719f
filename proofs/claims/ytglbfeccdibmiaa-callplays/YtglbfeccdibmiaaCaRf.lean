/- The document's Fills. -/
import Derived.Test.YtglbfeccdibmiaaCaCr
import Derived.Test.YtglbfeccdibmiaaCaQ
import Derived.Deep.RegionHeldLaw
import Derived.Deep.RegionHeld3
import Derived.Deep.RegionLaw
import Derived.Deep.DeepCutAuto
import Derived.Deep.CutBlock
namespace Go.Proofs.Ytglbfeccdibmiaa
open Go.Shelf Go.RowKit Go.Lib Go.Sort
set_option linter.unusedSimpArgs false
set_option linter.unusedVariables false

theorem keepF {w w' : World} (hb : Below w.heap.size w w') {a : Addr} {u : Value} (h : w.cell? a = some u) : w'.cell? a = some u := (hb.cell (World.block_lt_of_cell? w _ h)).trans h
def befB (x y : Od) : Bool := if x.pr = y.pr then decide (x.pl < y.pl) else (decide (y.pr < x.pr) == x.by)
theorem bef_buy {x : Od} (h : x.by = true) (y : Od) : befB x y = decide (cfB x y < 0) := by
  rw [cfB_lt]
  unfold befB
  split
  · rename_i e
    rw [decide_eq_decide]
    constructor
    · intro hl; exact Or.inr ⟨e, hl⟩
    · intro hl; rcases hl with hl | hl; omega; exact hl.2
  · rename_i e
    rw [h, beq_true, decide_eq_decide]
    constructor
    · intro hl; exact Or.inl hl
    · intro hl; rcases hl with hl | hl; exact hl; exact absurd hl.1 e
theorem bef_sell {x : Od} (h : x.by = false) (y : Od) : befB x y = decide (cfS x y < 0) := by
  rw [cfS_lt]
  unfold befB
  split
  · rename_i e
    rw [decide_eq_decide]
    constructor
    · intro hl; exact Or.inr ⟨e, hl⟩
    · intro hl; rcases hl with hl | hl; omega; exact hl.2
  · rename_i e
    rw [h, beq_false, ← decide_not, decide_eq_decide]
    constructor
    · intro hl; exact Or.inl (by omega)
    · intro hl; rcases hl with hl | hl; omega; exact absurd hl.1 e
set_option maxHeartbeats 2000000 in
set_option maxRecDepth 100000 in
theorem before_calls (x y : Od) (w : World) : Calls Try.prog 49 #[.agg #[.int .i64 x.id, .int .i64 x.own, .int .i64 x.pr, .int .i64 x.am, .int .i64 x.pl, .bool x.by], .agg #[.int .i64 y.id, .int .i64 y.own, .int .i64 y.pr, .int .i64 y.am, .int .i64 y.pl, .bool y.by]] w fun e w' => e = .returned (.bool (befB x y)) ∧ Below w.heap.size w w' := by
  have HD : Hid (befB x y = if x.pr = y.pr then decide (x.pl < y.pl) else (decide (y.pr < x.pr) == x.by)) := rfl
  generalize befB x y = M at *
  obtain ⟨W1, hW1, X1, B1, Z1⟩ : ∃ W1, w.alloc (.cells #[.int .i64 x.id, .int .i64 x.own, .int .i64 x.pr, .int .i64 x.am, .int .i64 x.pl, .bool x.by] 31) = W1 ∧ Blk W1 w.heap.size #[.int .i64 x.id, .int .i64 x.own, .int .i64 x.pr, .int .i64 x.am, .int .i64 x.pl, .bool x.by] 31 ∧ Below w.heap.size w W1 ∧ W1.heap.size = w.heap.size + 1 := ⟨_, rfl, blk_new _ _ _ _ rfl, by go_grown, by simp⟩
  obtain ⟨W2, hW2, X2, Y2, B2⟩ : ∃ W2, W1.alloc (.cells #[.int .i64 y.id, .int .i64 y.own, .int .i64 y.pr, .int .i64 y.am, .int .i64 y.pl, .bool y.by] 31) = W2 ∧ Blk W2 w.heap.size #[.int .i64 x.id, .int .i64 x.own, .int .i64 x.pr, .int .i64 x.am, .int .i64 x.pl, .bool x.by] 31 ∧ Blk W2 (w.heap.size + 1) #[.int .i64 y.id, .int .i64 y.own, .int .i64 y.pr, .int .i64 y.am, .int .i64 y.pl, .bool y.by] 31 ∧ Below w.heap.size w W2 := ⟨_, rfl, X1.alloc _, blk_new _ _ _ _ (by rw [Z1]), B1.alloc (by omega) _⟩
  have c2 : W2.cell? ⟨w.heap.size, 2, none⟩ = some (.int .i64 x.pr) := X2.cell rfl
  have c4 : W2.cell? ⟨w.heap.size, 4, none⟩ = some (.int .i64 x.pl) := X2.cell rfl
  have c5 : W2.cell? ⟨w.heap.size, 5, none⟩ = some (.bool x.by) := X2.cell rfl
  have d2 : W2.cell? ⟨w.heap.size + 1, 2, none⟩ = some (.int .i64 y.pr) := Y2.cell rfl
  have d4 : W2.cell? ⟨w.heap.size + 1, 4, none⟩ = some (.int .i64 y.pl) := Y2.cell rfl
  clear X1 X2 Y2
  by_cases h : x.pr = y.pr
  · have g1 : (x.pr == y.pr) = true := by simpa using h
    have g2 : (x.pr != y.pr) = false := by rw [bne, g1]; rfl
    have HM : Hid (M = decide (x.pl < y.pl)) := by have := HD.out; rw [if_pos h] at this; exact this
    clear h
    go_enter Try.func49, Try.ntmps49
    go_wp2
    go_ret
    exact ⟨by rw [HM.out]; rfl, B2⟩
  · have g1 : (x.pr == y.pr) = false := by simpa using h
    have g2 : (x.pr != y.pr) = true := by rw [bne, g1]; rfl
    have HM : Hid (M = (decide (y.pr < x.pr) == x.by)) := by have := HD.out; rw [if_neg h] at this; exact this
    clear h
    go_enter Try.func49, Try.ntmps49
    go_wp2
    go_ret
    exact ⟨by rw [HM.out]; rfl, B2⟩
/-- Where an order is put in. -/
theorem ins_at {lt : Od → Od → Bool} (hO : SWO lt) {S : List Od} (hS : Srt lt S) {o : Od} {j : Nat} (hj : j ≤ S.length) (h1 : ∀ y ∈ S.drop j, lt o y = true) (h2 : ∀ y, S[j - 1]? = some y → j = 0 ∨ lt o y = false) : insS lt o S = S.take j ++ o :: S.drop j := by
  obtain ⟨s1, s2, e, hi, k1, k2⟩ := insS_split hO o S hS
  have hl : s1.length = j := by
    rcases Nat.lt_trichotomy s1.length j with hlt | he | hgt
    · exfalso
      have hj1 : j - 1 < S.length := by omega
      have hg : S[j - 1]? = some S[j - 1] := List.getElem?_eq_getElem hj1
      have hm : S[j - 1] ∈ s2 := by
        have : S[j - 1]? = s2[j - 1 - s1.length]? := by rw [e, List.getElem?_append_right (by omega)]
        rw [hg] at this
        exact List.mem_of_getElem? this.symm
      rcases h2 _ hg with h0 | h0
      · omega
      · rw [k2 _ hm] at h0; cases h0
    · exact he
    · exfalso
      have hj1 : j < S.length := by rw [e, List.length_append]; omega
      have hm1 : S[j] ∈ s1 := by
        have : S[j]? = s1[j]? := by rw [e, List.getElem?_append_left hgt]
        rw [List.getElem?_eq_getElem hj1] at this
        exact List.mem_of_getElem? this.symm
      have hm2 : S[j] ∈ S.drop j := by rw [List.drop_eq_getElem_cons hj1]; exact List.mem_cons_self ..
      have := h1 _ hm2
      rw [k1 _ hm1] at this
      cases this
  rw [hi, e, ← hl, List.take_left, List.drop_left]
theorem odL_take_cells {w : World} {g off : Nat} {S : List Od} (h : ∀ (k : Nat) (x : Od), S[k]? = some x → ∀ (j : Nat) (u : Value), (oC x)[j]? = some u → w.cell? ⟨g, off + k * 6 + j, none⟩ = some u) : ∀ j u, (odL S)[j]? = some u → w.cell? ⟨g, off + j, none⟩ = some u := by
  intro j u hj
  have hl := (List.getElem?_eq_some_iff.1 hj).1
  rw [odL_len] at hl
  have hk : j / 6 < S.length := by omega
  have hx : S[j / 6]? = some S[j / 6] := List.getElem?_eq_getElem hk
  have h6 : j % 6 < 6 := Nat.mod_lt _ (by omega)
  have hu : ∃ u', (oC S[j / 6])[j % 6]? = some u' := ⟨(oC S[j / 6])[j % 6]'(by rw [oC_len]; exact h6), List.getElem?_eq_getElem (by rw [oC_len]; exact h6)⟩
  obtain ⟨u', hu'⟩ := hu
  have e := odL_get S (j / 6) (j % 6) _ u' hx hu'
  have ej : j / 6 * 6 + j % 6 = j := by omega
  rw [ej, hj] at e
  injection e with e
  subst e
  have := h (j / 6) _ hx (j % 6) u hu'
  rw [show off + j / 6 * 6 + j % 6 = off + j by omega] at this
  exact this

def gT (p : Int) (z : Int) : Od → Bool := if z = 0 then bAt p else sAt p
def lT (z : Int) : Od → Od → Bool := if z = 0 then (fun a b => decide (cfB a b < 0)) else (fun a b => decide (cfS a b < 0))
def sT (l : List Od) (p z : Int) : List Od := stab (lT z) ((l.filter mayB).filter (gT p z))
def sK (l : List Od) (p z : Int) (k : Nat) : List Od := stab (lT z) (((l.take k).filter mayB).filter (gT p z))
def fT (l : List Od) (p n z : Int) : List Fi := if z = 0 then [] else if z = 1 then fll (sT l p 0) n else fll (sT l p 0) n ++ fll (sT l p 1) n
theorem lT_swo (z : Int) : SWO (lT z) := by
  unfold lT
  split
  · exact swoB
  · exact swoS
theorem sK_succ {l : List Od} {p z : Int} {k : Nat} {o : Od} (h : l[k]? = some o) : sK l p z (k + 1) = if mayB o = true ∧ gT p z o = true then insS (lT z) o (sK l p z k) else sK l p z k := by
  unfold sK
  rw [List.take_add_one, h]
  simp only [Option.toList_some, List.filter_append]
  cases hm : mayB o
  · rw [List.filter_cons_of_neg (by rw [hm]; simp)]
    simp
  · rw [List.filter_cons_of_pos hm]
    cases hg : gT p z o
    · rw [List.filter_nil, List.filter_cons_of_neg (by rw [hg]; simp)]
      simp
    · rw [List.filter_nil, List.filter_cons_of_pos hg, List.filter_nil, stab_snoc]
      simp
theorem sK_len (l : List Od) (p z : Int) (k : Nat) : (sK l p z k).length ≤ l.length := by
  unfold sK
  rw [stab_len]
  refine Nat.le_trans (List.length_filter_le _ _) (Nat.le_trans (List.length_filter_le _ _) ?_)
  rw [List.length_take]; omega
theorem sK_may {l : List Od} {p z : Int} {k : Nat} {o : Od} (h : o ∈ sK l p z k) : mayB o = true := by
  unfold sK at h
  have := (stab_perm (lt := lT z) _).mem_iff.1 h
  exact (List.mem_filter.1 (List.mem_filter.1 this).1).2
theorem bef_lT {o : Od} {p z : Int} (hz : z = 0 ∨ z = 1) (h : gT p z o = true) (y : Od) : befB o y = lT z o y := by
  unfold gT at h
  unfold lT
  rcases hz with rfl | rfl
  · simp only [if_true] at h ⊢
    unfold bAt at h
    simp only [Bool.and_eq_true] at h
    exact bef_buy h.1 y
  · simp only [show ((1 : Int) = 0) = False by simp, if_false] at h ⊢
    unfold sAt at h
    simp only [Bool.and_eq_true, Bool.not_eq_true'] at h
    exact bef_sell h.1 y
theorem fT_next {l : List Od} {p n z : Int} (hz : z = 0 ∨ z = 1) : fT l p n (z + 1) = fT l p n z ++ fll (sT l p z) n := by
  rcases hz with rfl | rfl
  · simp [fT]
  · simp [fT]
theorem fT_end (l : List Od) (p n : Int) (hn : l.length ≤ 64) : fT l p n 2 = fills l p n := by
  unfold fT fills sT lT gT jdg
  rw [if_neg (show ¬ 64 < l.length by omega)]
  simp
theorem fT_len (l : List Od) (p n z : Int) (hn : l.length ≤ 64) : (fT l p n z).length ≤ 128 := by
  have hs : ∀ z, (fll (sT l p z) n).length ≤ 64 := fun z => by
    have h1 := fll_len (sT l p z) n
    have h2 : (sT l p z).length ≤ l.length := by
      have := sK_len l p z l.length
      unfold sK at this
      rw [List.take_length] at this
      exact this
    omega
  have h0 := hs 0
  have h1 := hs 1
  unfold fT
  split
  · simp
  · split
    · omega
    · rw [List.length_append]; omega
theorem infoOr : (Try.prog.info? 31).map (fun i => (i.zero, i.size, i.bytes)) = some (some (.agg #[.int .i64 0, .int .i64 0, .int .i64 0, .int .i64 0, .int .i64 0, .bool false]), 6, 48) := by kernel_rfl
theorem fll_noneF {l : List Od} {n : Int} (h : n ≤ 0) : fll l n = [] := by
  cases l with
  | nil => rfl
  | cons o l => rw [fll, if_pos (by omega)]
theorem step_ifF {P : Program} {ops : Array Oper} {o : Oper} {a : Act} {w : World} {K : Act → World → Prop} {Q : Exit → Act → World → Prop} {E : Prop} (hg : o.guard = none) (h : Oper.wp P o a w K Q) :
    if Region.wanted o (yielded ops a.tmps) = true then Oper.wp P o a w K Q else E := by
  have hw : Region.wanted o (yielded ops a.tmps) = true := by simp [Region.wanted, hg]
  rw [if_pos hw]; exact h
theorem own_heapF {w : World} {base : Nat} {e : TypeId} {sz : Nat} {v : Value} {n : Nat} {xs : List Value} (h : w.ownsRow base e sz v n xs) {k : Nat} (hk : v.ownBlock = some k) : ∃ cur, w.heap[k]? = some (.cells cur e (0, 0)) := by
  rcases h.2 with ⟨h1, _⟩ | ⟨g, cap, cur, h1, _, h2, _⟩
  · rw [h1] at hk; simp [Value.ownBlock] at hk
  · rw [h1] at hk
    simp [Value.ownBlock] at hk
    subst hk
    exact ⟨cur, h2⟩
theorem append_emptyO (p : Option Addr) (c : Nat) (w : World) : (Builtin.append_ #[25, 25] 25 #[.slice none 0 0, .slice p 0 c]).run Try.prog w = .ok (.slice none 0 0) w := by
  cases p with
  | none => kernel_rfl
  | some a => kernel_rfl
theorem wpList_append_givenO (w : World) {ops : Array Oper} {rest : List Oper} {o : Oper} {a : Act} {Q : Exit → Act → World → Prop} (hgd : o.guard = none) (s x : Operand) (t : TypeId)
    (ho : o.op = .call { callee := .builtin .append, args := #[s, x], argTypes := #[t, t] }) (v u : Value) (hs : a.eval s = v) (hx : a.eval x = u) {v' : Value} {w' : World}
    (hr : (Builtin.append_ #[t, t] o.type #[v, u]).run Try.prog w = .ok v' w') (h : wpList Try.prog ops Q rest (a.put o.dst v') w') : wpList Try.prog ops Q (o :: rest) a w :=
  wpList_plain hgd fun K hK => by
    unfold Oper.wp execOp
    simp only [ho, resolve, invoke, builtin, Sem.run_bind, Sem.run_pure, Result.andThen_ok, List.map_toArray, List.map_cons, List.map_nil, hs, hx, hr]
    exact hK _ _ h
theorem wpList_append_givenV (w : World) {ops : Array Oper} {rest : List Oper} {o : Oper} {a : Act} {Q : Exit → Act → World → Prop} (hgd : o.guard = none) (s x : Operand) (t : TypeId)
    (ho : o.op = .call { callee := .builtin .append, args := #[s, x], argTypes := #[t, t] }) (v u : Value) (hs : a.eval s = v) (hx : a.eval x = u) {v' : Value} {w' : World}
    (hr : (Builtin.append_ #[t, t] o.type #[v, u]).run Try.prog w = .ok v' w') (h : ∀ u' w'', u' = v' → w'' = w' → wpList Try.prog ops Q rest (a.put o.dst u') w'') : wpList Try.prog ops Q (o :: rest) a w :=
  wpList_append_givenO w hgd s x t ho v u hs hx hr (h _ _ rfl rfl)
theorem append_noneO (a : Addr) (n c : Nat) (h : n ≤ c) (w : World) : (Builtin.append_ #[25, 25] 25 #[.slice (some a) n c, .slice none 0 0]).run Try.prog w = .ok (.slice (some a) n c) w := by
  obtain ⟨i0, hi, hz0, hz1, hz2⟩ := info_parts infoOr
  simp [Builtin.append_, run_underlying Try.underlying25, Go.sizeOf, typeInfo, hi, Builtin.lenOf, h, Addr.add_lit, Builtin.firstCells, storeCells]

set_option maxHeartbeats 32000000 in
set_option maxRecDepth 100000 in
theorem refFills_calls (v : Value) (l : List Od) (p n : Int) (w : World) (hl : Ods w v l) (hr : -9223372036854775808 ≤ n ∧ n ≤ 9223372036854775807) :
    Calls Try.prog 33 #[v, .int .i64 p, .int .i64 n] w fun e w' => ∃ v', e = .returned v' ∧ w'.ownsRow w.heap.size 62 3 v' (fills l p n).length (fiL (fills l p n)) ∧ Below w.heap.size w w' := by
  obtain ⟨i0, hi_, hi0, hi1, hi2⟩ := info_parts infoOr
  obtain ⟨iF, hf_, hf0, hf1, hf2⟩ := info_parts infoF
  obtain ⟨pp, cap, rfl, hc⟩ := hl
  have HC : Hid _ := hc
  clear hc
  by_cases hn : 64 < l.length
  · have d0 : decide ((64 : Int) < (l.length : Int)) = true := decide_eq_true (by omega)
    have hf : fills l p n = [] := by unfold fills jdg; rw [if_pos hn]; rfl
    rw [hf]
    clear hn hf
    go_enter Try.func33, Try.ntmps33
    go_wp2
    go_ret
    exact ⟨_, rfl, World.ownsRow_nil _ _ _ _, Below.refl _ _⟩
  have d0 : decide ((64 : Int) < (l.length : Int)) = false := decide_eq_false (by omega)
  have hn6 : l.length ≤ 64 := by omega
  clear hn
  go_enter Try.func33, Try.ntmps33
  go_wp2
  go_loopw [7, 8] (fun ov tv wr => ∃ z : Int, 0 ≤ z ∧ z ≤ 2 ∧ tv = .int .i64 z ∧ wr.ownsRow w.heap.size 62 3 ov (fT l p n z).length (fiL (fT l p n z)) ∧ Hid (Below w.heap.size w wr)) (fun _ tv _ => (2 - intOf tv).toNat)
  case atStart => exact ⟨0, by omega, by omega, rfl, (by simp only [fT, if_true]; exact World.ownsRow_nil _ _ _ _), Below.refl _ _⟩
  case round =>
    obtain ⟨wt, hwt⟩ : ∃ wt, wt = wr := ⟨_, rfl⟩
    subst hwt
    obtain ⟨z, hz0, hz2, rfl, hout, HBT⟩ := hrel
    obtain ⟨oa, ocap, rfl⟩ := own_form hout
    have HOUT : Hid _ := hout
    have hfl := fT_len l p n z hn6
    clear hout
    by_cases hz : z < 2
    case neg =>
      have dz : decide (z < 2) = false := decide_eq_false hz
      obtain rfl : z = 2 := by omega
      have HE : Hid _ := fT_end l p n hn6
      have HO2 : Hid _ := HOUT.out
      rw [HE.out] at HO2
      clear HOUT
      go_wp2
      go_ret
      exact ⟨_, by rw [HE.out]; rfl, HO2.out, HBT.out⟩
    have dz : decide (z < 2) = true := decide_eq_true hz
    have hz01 : z = 0 ∨ z = 1 := by omega
    have HO : Hid _ := lT_swo z
    have hbt := HBT.out.size
    go_wp2
    go_loopw [9, 10] (fun sv iv w4 => ∃ k : Nat, k ≤ l.length ∧ iv = .int .i64 k ∧ w4.ownsRow wt.heap.size 31 6 sv (sK l p z k).length (odL (sK l p z k)) ∧ Hid (Below wt.heap.size wt w4)) (fun _ iv _ => l.length - (intOf iv).toNat)
    case atStart => exact ⟨0, Nat.zero_le _, rfl, (by have e : sK l p z 0 = [] := rfl; rw [e]; exact World.ownsRow_nil _ _ _ _), Below.refl _ _⟩
    case round =>
      obtain ⟨w4, hw4⟩ : ∃ w4, w4 = wr := ⟨_, rfl⟩
      subst hw4
      obtain ⟨k, hk, rfl, hside, HB4⟩ := hrel
      have hb4 := HB4.out.size
      obtain ⟨sa, scap, rfl⟩ := own_form hside
      have HSIDE : Hid _ := hside
      have hsl := sK_len l p z k
      clear hside
      by_cases hlt : k < l.length
      · have hkl : (k : Int) < (l.length : Int) := by omega
        obtain ⟨o, ho⟩ : ∃ o, l[k]? = some o := ⟨l[k], by simp [hlt]⟩
        rcases HC.out with hnil | ⟨gb, off, hp, hcs⟩
        · exfalso; rw [hnil] at hlt; simp at hlt
        subst hp
        obtain ⟨c0, c1, c2, c3, c4, c5⟩ := Ods.six hcs ho
        have HBW4 : Hid (Below w.heap.size w w4) := Below.trans HBT.out (HB4.out.mono hbt)
        have d0_ := keepF HBW4.out c0
        have d1_ := keepF HBW4.out c1
        have d2_ := keepF HBW4.out c2
        have d3_ := keepF HBW4.out c3
        have d4_ := keepF HBW4.out c4
        have d5_ := keepF HBW4.out c5
        have hsu := sK_succ (p := p) (z := z) ho
        obtain ⟨W3, hW3, X3, B3, Z3⟩ : ∃ W3, (w4.alloc (.cells #[.int .i64 o.id, .int .i64 o.own, .int .i64 o.pr, .int .i64 o.am, .int .i64 o.pl, .bool o.by] 31)) = W3 ∧ Blk W3 w4.heap.size #[.int .i64 o.id, .int .i64 o.own, .int .i64 o.pr, .int .i64 o.am, .int .i64 o.pl, .bool o.by] 31 ∧ Below w4.heap.size w4 W3 ∧ W3.heap.size = w4.heap.size + 1 := ⟨_, rfl, blk_new _ _ _ _ rfl, by go_grown, by simp⟩
        have HB3 : Hid (Below wt.heap.size wt W3) := Below.trans HB4.out (B3.mono hb4)
        have x0 : W3.cell? ⟨w4.heap.size, 0, none⟩ = some (.int .i64 o.id) := X3.cell rfl
        have x1 : W3.cell? ⟨w4.heap.size, 1, none⟩ = some (.int .i64 o.own) := X3.cell rfl
        have x2 : W3.cell? ⟨w4.heap.size, 2, none⟩ = some (.int .i64 o.pr) := X3.cell rfl
        have x3 : W3.cell? ⟨w4.heap.size, 3, none⟩ = some (.int .i64 o.am) := X3.cell rfl
        have x4 : W3.cell? ⟨w4.heap.size, 4, none⟩ = some (.int .i64 o.pl) := X3.cell rfl
        have x5 : W3.cell? ⟨w4.heap.size, 5, none⟩ = some (.bool o.by) := X3.cell rfl
        have HX3 : Hid _ := X3
        have HSU : Hid _ := hsu
        clear c0 c1 c2 c3 c4 c5 hcs ho hsu X3
        go_upto_region 12 with fail
        go_cut [12] (fun gv wx => gv = .bool (gT p z o) ∧ wx = W3)
        case first =>
          have HG : Hid (gT p z o = if z = 0 then (o.by && decide (p ≤ o.pr)) else (!o.by && decide (o.pr ≤ p))) := by show _ = _; unfold gT; split <;> rfl
          generalize gT p z o = G at *
          obtain ⟨bb, hbb⟩ : ∃ bb, o.by = bb := ⟨_, rfl⟩
          rw [hbb] at x5 HG
          clear hbb
          rcases hz01 with rfl | rfl
          · rw [if_pos rfl] at HG
            cases bb
            · go_wp2
              go_meet
              exact ⟨by rw [HG.out]; rfl, rfl⟩
            · by_cases hpp : p ≤ o.pr
              · have hpd : decide (p ≤ o.pr) = true := decide_eq_true hpp
                go_wp2
                go_meet
                exact ⟨by rw [HG.out, hpd]; rfl, rfl⟩
              · have hpd : decide (p ≤ o.pr) = false := decide_eq_false hpp
                go_wp2
                go_meet
                exact ⟨by rw [HG.out, hpd]; rfl, rfl⟩
          · rw [if_neg (by omega)] at HG
            cases bb
            · by_cases hpp : o.pr ≤ p
              · have hpd : decide (o.pr ≤ p) = true := decide_eq_true hpp
                go_wp2
                go_meet
                exact ⟨by rw [HG.out, hpd]; rfl, rfl⟩
              · have hpd : decide (o.pr ≤ p) = false := decide_eq_false hpp
                go_wp2
                go_meet
                exact ⟨by rw [HG.out, hpd]; rfl, rfl⟩
            · go_wp2
              go_meet
              exact ⟨by rw [HG.out]; rfl, rfl⟩
        case rest =>
          obtain ⟨rfl, rfl⟩ := hcut
          rename World => W3
          have HR : Hid (Calls Try.prog 25 #[.agg #[.int .i64 o.id, .int .i64 o.own, .int .i64 o.pr, .int .i64 o.am, .int .i64 o.pl, .bool o.by]] W3 fun e w' => e = .returned (.bool (mayB o)) ∧ Gr W3 w') := right_calls o W3
          cases hmb : mayB o
          · rw [hmb] at HR
            have HSK : Hid (sK l p z (k + 1) = sK l p z k) := by have := HSU.out; rw [if_neg (fun h => by rw [hmb] at h; cases h.1)] at this; exact this
            clear hmb
            go_wp2_with fail
            refine Calls.mono HR.out ?_
            rintro e w5 ⟨rfl, g5⟩
            have b45 : Below w4.heap.size w4 w5 := B3.trans (g5.below.mono (by omega))
            go_wp2
            exact ⟨⟨k + 1, by omega, by norm_cast, by rw [HSK.out]; exact ownB HSIDE.out b45, Below.trans HB4.out (b45.mono hb4)⟩, by simp [intOf]; omega⟩
          · rw [hmb] at HR
            cases hgo : gT p z o
            · have HSK : Hid (sK l p z (k + 1) = sK l p z k) := by have := HSU.out; rw [if_neg (fun h => by rw [hgo] at h; cases h.2)] at this; exact this
              clear hmb
              go_wp2_with fail
              refine Calls.mono HR.out ?_
              rintro e w5 ⟨rfl, g5⟩
              have b45 : Below w4.heap.size w4 w5 := B3.trans (g5.below.mono (by omega))
              go_wp2
              exact ⟨⟨k + 1, by omega, by norm_cast, by rw [HSK.out]; exact ownB HSIDE.out b45, Below.trans HB4.out (b45.mono hb4)⟩, by simp [intOf]; omega⟩
            · have HSK : Hid (sK l p z (k + 1) = insS (lT z) o (sK l p z k)) := by have := HSU.out; rw [if_pos ⟨hmb, hgo⟩] at this; exact this
              go_wp2_with fail
              refine Calls.mono HR.out ?_
              rintro e w5 ⟨rfl, g5⟩
              have b35 := g5.below
              have b45 : Below w4.heap.size w4 w5 := B3.trans (b35.mono (by omega))
              have HB5 : Hid (Below wt.heap.size wt w5) := Below.trans HB4.out (b45.mono hb4)
              have HSRT : Hid (Srt (lT z) (sK l p z k)) := stab_srt HO.out _
              have xo0 := keepF b35 x0
              have xo1 := keepF b35 x1
              have xo2 := keepF b35 x2
              have xo3 := keepF b35 x3
              have xo4 := keepF b35 x4
              have xo5 := keepF b35 x5
              have HBE : Hid (∀ y, befB o y = lT z o y) := bef_lT hz01 hgo
              have side5 := ownB HSIDE.out b45
              have hz5 := b45.size
              have hm64 : (sK l p z k).length ≤ 64 := by omega
              clear x0 x1 x2 x3 x4 x5 d0_ d1_ d2_ d3_ d4_ d5_ g5 HR hgo hmb HSU
              rcases side5.2 with ⟨hs1, hs2⟩ | ⟨gs, scap', cur, hs1, hsb, _, hsc, _, _, _⟩
              · injection hs1 with hs1 hs3 hs4
                subst hs1 hs4
                have HM0 : Hid ((sK l p z k).length = 0) := hs2
                obtain ⟨m0, hm0⟩ : ∃ m0, (sK l p z k).length = m0 := ⟨_, rfl⟩
                obtain ⟨w8, hw8⟩ : ∃ w8, w8 = w5 := ⟨_, rfl⟩
                have HB58 : Hid (Below w5.heap.size w5 w8) := by rw [hw8]; exact Below.refl _ _
                have h8 := HB58.out.size
                rw [hs2]
                clear hs2 hs3 hm0 hw8 HB58 h8 w8
                go_wp2
                go_loopw [13] (fun jv w6 => jv = .int .i64 0 ∧ w6 = w5) (fun _ _ => 0)
                case atStart => exact ⟨rfl, rfl⟩
                case round =>
                  obtain ⟨rfl, rfl⟩ := hrel
                  rename World => w5
                  go_wp2_with fail
                  go_quiet (fail)
                  rename_i nq
                  obtain ⟨w8, hw8⟩ : ∃ w8, w8 = w5.drewN nq := ⟨_, rfl⟩
                  have HB58 : Hid (Below w5.heap.size w5 w8) := by rw [hw8]; exact below_drewN (Below.refl _ _) _
                  have h8 := HB58.out.size
                  rw [← hw8]
                  clear hw8
                  have HIN : Hid (sK l p z (k + 1) = [o]) := by show _ = _; rw [HSK.out]; have e : sK l p z k = [] := List.eq_nil_of_length_eq_zero HM0.out; rw [e]; rfl
                  have y0 := keepF HB58.out xo0
                  have y1 := keepF HB58.out xo1
                  have y2 := keepF HB58.out xo2
                  have y3 := keepF HB58.out xo3
                  have y4 := keepF HB58.out xo4
                  have y5 := keepF HB58.out xo5
                  go_wp2_with (at_builtin; refine wpList_append_own _ rfl _ _ 25 rfl w8.heap.size 31 i0 (.agg #[.int .i64 0, .int .i64 0, .int .i64 0, .int .i64 0, .int .i64 0, .bool false]) 6 48 Try.underlying25 hi_ hi0 hi1 hi2 rfl (by decide) (.slice none 0 0) 0 [] rfl (World.ownsRow_nil _ _ _ _) ⟨w8.heap.size, 0, none⟩ 1 1 [.int .i64 o.id, .int .i64 o.own, .int .i64 o.pr, .int .i64 o.am, .int .i64 o.pl, .bool o.by] rfl rfl ?c1 ?c2 ?c3 ?c4 ?c5 ?_)
                  case c1 =>
                    intro q u hq
                    rw [Addr.add_lit, Nat.zero_add]
                    exact (blk_new w8 w8.heap.size _ _ rfl).cell (by simpa using hq)
                  case c2 => intro u hu; simp at hu; rcases hu with rfl | rfl | rfl | rfl | rfl | rfl <;> rfl
                  case c3 => unfold maxLen; omega
                  case c4 => omega
                  case c5 => simp
                  intro v2 w10 own10 gr10 _
                  have b810 : Below w8.heap.size w8 w10 := belG ((Below.refl _ _).alloc (Nat.le_refl _) _) gr10 (fun k hk => by cases hk) (by simp)
                  obtain ⟨g10, c10, rfl, hc10⟩ : ∃ g10 c10, v2 = .slice (some ⟨g10, 0, none⟩) 1 c10 ∧ 1 ≤ c10 := by
                    rcases own10.2 with ⟨h1, h2⟩ | ⟨g, cap, cur, h1, _, _, h2, _⟩
                    · exfalso; omega
                    · exact ⟨g, cap, h1, h2⟩
                  have hfin : w10.ownsRow wt.heap.size 31 6 (.slice (some ⟨g10, 0, none⟩) 1 c10) (sK l p z (k + 1)).length (odL (sK l p z (k + 1))) := by
                    have e2 : odL [o] = [.int .i64 o.id, .int .i64 o.own, .int .i64 o.pr, .int .i64 o.am, .int .i64 o.pl, .bool o.by] := by simp [odL, oC]
                    rw [HIN.out, e2]
                    exact own_base (b := w8.heap.size) (by simpa using own10) (by omega)
                  have HFIN : Hid _ := hfin
                  clear hfin own10 gr10
                  go_wp2
                  exact ⟨⟨k + 1, by omega, by norm_cast, HFIN.out, Below.trans HB5.out ((Below.trans HB58.out (b810.mono (Below.size HB58.out))).mono (Below.size HB5.out))⟩, by simp [intOf]; omega⟩
              · injection hs1 with hs1 hs3 hs4
                subst hs1 hs4
                have HSC : Hid (∀ wx, Below w5.heap.size w5 wx → ∀ (k' : Nat) (x' : Od), (sK l p z k)[k']? = some x' → ∀ (i : Nat) (u : Value), (oC x')[i]? = some u → wx.cell? ⟨gs, 0 + k' * 6 + i, none⟩ = some u) := fun wx hb k' x' hx' i u hu => by
                  have q := World.ownsRow.cells side5 (g := gs) rfl (k' * 6 + i) u (odL_get _ k' i x' u hx' hu)
                  rw [Addr.add_lit] at q
                  rw [Nat.add_assoc]
                  exact keepF hb q
                clear side5
                go_wp2
                go_loopw [13] (fun jv w6 => ∃ (j : Nat) (x : Int), j ≤ (sK l p z k).length ∧ jv = .int .i64 x ∧ Hid (x = (j : Int)) ∧ 0 ≤ x ∧ x ≤ 64 ∧ Hid (∀ y ∈ (sK l p z k).drop j, lT z o y = true) ∧ Hid (Below w5.heap.size w5 w6)) (fun jv _ => (intOf jv).toNat)
                case atStart => exact ⟨(sK l p z k).length, _, Nat.le_refl _, rfl, rfl, by omega, by omega, (fun y hy => by rw [List.drop_length] at hy; cases hy), Below.refl _ _⟩
                case round =>
                  obtain ⟨w6, hw6⟩ : ∃ w6, w6 = wr := ⟨_, rfl⟩
                  subst hw6
                  obtain ⟨j, x, hj, rfl, HXJ, hx0, hx1, HDR, HB56⟩ := hrel
                  have h56 := HB56.out.size
                  by_cases hj0 : 0 < x
                  · obtain ⟨jj, hjj⟩ : ∃ jj : Nat, j = jj + 1 := ⟨j - 1, by have := HXJ.out; omega⟩
                    subst hjj
                    have ex : x - 1 = (jj : Int) := by have := HXJ.out; omega
                    have dx : decide (0 < x) = true := decide_eq_true hj0
                    have hjjl : (jj : Int) < ((sK l p z k).length : Int) := by omega
                    have rwj : IntKind.i64.wrap (jj : Int) = (jj : Int) := by rw [IntKind.wrap_i64]; omega
                    obtain ⟨y, hy⟩ : ∃ y, (sK l p z k)[jj]? = some y := ⟨(sK l p z k)[jj]'(by omega), List.getElem?_eq_getElem (by omega)⟩
                    have o0 := keepF HB56.out xo0
                    have o1 := keepF HB56.out xo1
                    have o2 := keepF HB56.out xo2
                    have o3 := keepF HB56.out xo3
                    have o4 := keepF HB56.out xo4
                    have o5 := keepF HB56.out xo5
                    have tc := HSC.out w6 HB56.out jj y hy
                    simp only [Nat.zero_add] at tc
                    have t0 : w6.cell? ⟨gs, jj * 6, none⟩ = some (.int .i64 y.id) := tc 0 _ rfl
                    have t1 : w6.cell? ⟨gs, jj * 6 + 1, none⟩ = some (.int .i64 y.own) := tc 1 _ rfl
                    have t2 : w6.cell? ⟨gs, jj * 6 + 2, none⟩ = some (.int .i64 y.pr) := tc 2 _ rfl
                    have t3 : w6.cell? ⟨gs, jj * 6 + 3, none⟩ = some (.int .i64 y.am) := tc 3 _ rfl
                    have t4 : w6.cell? ⟨gs, jj * 6 + 4, none⟩ = some (.int .i64 y.pl) := tc 4 _ rfl
                    have t5 : w6.cell? ⟨gs, jj * 6 + 5, none⟩ = some (.bool y.by) := tc 5 _ rfl
                    have hbf := before_calls o y
                    rw [HBE.out y] at hbf
                    have HBF : Hid _ := hbf
                    have HY : Hid _ := hy
                    clear tc hbf hy
                    cases hlt3 : lT z o y
                    · rw [hlt3] at HBF
                      have HL3 : Hid _ := hlt3
                      clear hlt3
                      go_wp2_with fail
                      refine wp_region_held_drew (S := (fun wx => wx.cell? ⟨w4.heap.size, 0, none⟩ = some (.int .i64 o.id) ∧ wx.cell? ⟨w4.heap.size, 1, none⟩ = some (.int .i64 o.own) ∧ wx.cell? ⟨w4.heap.size, 2, none⟩ = some (.int .i64 o.pr) ∧ wx.cell? ⟨w4.heap.size, 3, none⟩ = some (.int .i64 o.am) ∧ wx.cell? ⟨w4.heap.size, 4, none⟩ = some (.int .i64 o.pl) ∧ wx.cell? ⟨w4.heap.size, 5, none⟩ = some (.bool o.by) ∧ wx.cell? ⟨gs, jj * 6, none⟩ = some (.int .i64 y.id) ∧ wx.cell? ⟨gs, jj * 6 + 1, none⟩ = some (.int .i64 y.own) ∧ wx.cell? ⟨gs, jj * 6 + 2, none⟩ = some (.int .i64 y.pr) ∧ wx.cell? ⟨gs, jj * 6 + 3, none⟩ = some (.int .i64 y.am) ∧ wx.cell? ⟨gs, jj * 6 + 4, none⟩ = some (.int .i64 y.pl) ∧ wx.cell? ⟨gs, jj * 6 + 5, none⟩ = some (.bool y.by))) (by kernel_rfl) ⟨o0, o1, o2, o3, o4, o5, t0, t1, t2, t3, t4, t5⟩ (fun hS => ?_)
                      refine wpAnyH_take (i := 0) (v := (.int .i64 x)) rfl (by kernel_rfl) (by kernel_rfl) (by kernel_rfl) (fun _ _ _ h => h) (Or.inl ⟨by kernel_rfl, fun w hS => by obtain ⟨s0, s1, s2, s3, s4, s5, s6, s7, s8, s9, s10, s11⟩ := hS; go_simp⟩) hS ?_
                      refine wpAnyH_take (i := 1) (v := (.bool true)) rfl (by kernel_rfl) (by kernel_rfl) (by kernel_rfl) (fun _ _ _ h => h) (Or.inl ⟨by kernel_rfl, fun w hS => by obtain ⟨s0, s1, s2, s3, s4, s5, s6, s7, s8, s9, s10, s11⟩ := hS; go_simp⟩) hS ?_
                      refine wpAnyH_take (i := 2) (v := (.bool true)) rfl (by kernel_rfl) (by kernel_rfl) (by kernel_rfl) (fun _ _ _ h => h) (Or.inl ⟨by kernel_rfl, fun w hS => by obtain ⟨s0, s1, s2, s3, s4, s5, s6, s7, s8, s9, s10, s11⟩ := hS; go_simp⟩) hS ?_
                      refine wpAnyH_take (i := 3) (v := (.agg #[.int .i64 o.id, .int .i64 o.own, .int .i64 o.pr, .int .i64 o.am, .int .i64 o.pl, .bool o.by])) rfl (by kernel_rfl) (by kernel_rfl) (by kernel_rfl) (fun _ _ _ h => h) (Or.inl ⟨by kernel_rfl, fun w hS => by obtain ⟨s0, s1, s2, s3, s4, s5, s6, s7, s8, s9, s10, s11⟩ := hS; go_simp⟩) hS ?_
                      refine wpAnyH_take (i := 4) (v := (.slice (some ⟨gs, 0, none⟩) (sK l p z k).length scap)) rfl (by kernel_rfl) (by kernel_rfl) (by kernel_rfl) (fun _ _ _ h => h) (Or.inl ⟨by kernel_rfl, fun w hS => by obtain ⟨s0, s1, s2, s3, s4, s5, s6, s7, s8, s9, s10, s11⟩ := hS; go_simp⟩) hS ?_
                      refine wpAnyH_take (i := 5) (v := (.int .i64 x)) rfl (by kernel_rfl) (by kernel_rfl) (by kernel_rfl) (fun _ _ _ h => h) (Or.inl ⟨by kernel_rfl, fun w hS => by obtain ⟨s0, s1, s2, s3, s4, s5, s6, s7, s8, s9, s10, s11⟩ := hS; go_simp⟩) hS ?_
                      refine wpAnyH_take (i := 6) (v := (.int .i64 (jj : Int))) rfl (by kernel_rfl) (by kernel_rfl) (by kernel_rfl) (fun _ _ _ h => h) (Or.inl ⟨by kernel_rfl, fun w hS => by obtain ⟨s0, s1, s2, s3, s4, s5, s6, s7, s8, s9, s10, s11⟩ := hS; go_simp⟩) hS ?_
                      refine wpAnyH_take (i := 7) (v := (.pointer (some ⟨gs, jj * 6, none⟩))) rfl (by kernel_rfl) (by kernel_rfl) (by kernel_rfl) (fun _ _ _ h => h) (Or.inl ⟨by kernel_rfl, fun w hS => by obtain ⟨s0, s1, s2, s3, s4, s5, s6, s7, s8, s9, s10, s11⟩ := hS; go_simp⟩) hS ?_
                      refine wpAnyH_take (i := 8) (v := (.agg #[.int .i64 y.id, .int .i64 y.own, .int .i64 y.pr, .int .i64 y.am, .int .i64 y.pl, .bool y.by])) rfl (by kernel_rfl) (by kernel_rfl) (by kernel_rfl) (fun _ _ _ h => h) (Or.inl ⟨by kernel_rfl, fun w hS => by obtain ⟨s0, s1, s2, s3, s4, s5, s6, s7, s8, s9, s10, s11⟩ := hS; go_simp⟩) hS ?_
                      refine wpAnyH_ready (rs := [9]) (by kernel_rfl) (by simp) ?_
                      refine AllReadyH.cons rfl (fun K hK => ?_) AllReadyH.nil
                      go_simp
                      refine (HBF.out _).mono ?_
                      rintro e w7 ⟨rfl, b7⟩
                      have b67 : Below w6.heap.size w6 w7 := (Below.refl _ _).drew.trans b7
                      refine hK.out _ _ ⟨keepF b67 o0, keepF b67 o1, keepF b67 o2, keepF b67 o3, keepF b67 o4, keepF b67 o5, keepF b67 t0, keepF b67 t1, keepF b67 t2, keepF b67 t3, keepF b67 t4, keepF b67 t5⟩ (fun hS => ?_)
                      clear hK
                      refine wpAnyH_take (i := 10) (v := (.bool false)) rfl (by kernel_rfl) (by kernel_rfl) (by kernel_rfl) (fun _ _ _ h => h) (Or.inl ⟨by kernel_rfl, fun w hS => by obtain ⟨s0, s1, s2, s3, s4, s5, s6, s7, s8, s9, s10, s11⟩ := hS; go_simp⟩) hS ?_
                      refine wpAnyH_done (by kernel_rfl) ?_ _
                      clear hS
                      have HB58 : Hid (Below w5.heap.size w5 w7) := Below.trans HB56.out (b67.mono h56)
                      obtain ⟨w8, hw8⟩ : ∃ w8, w8 = w7 := ⟨_, rfl⟩
                      subst hw8
                      have h8 := HB58.out.size
                      have HLAST : Hid (∀ y', (sK l p z k)[jj + 1 - 1]? = some y' → jj + 1 = 0 ∨ lT z o y' = false) := fun y' hy' => by
                        rw [Nat.add_sub_cancel, HY.out] at hy'
                        injection hy' with hy'
                        subst hy'
                        exact Or.inr HL3.out
                      have hxn : x.toNat = jj + 1 := by have := HXJ.out; omega
                      have hxc : x ≤ (scap : Int) := by have := HXJ.out; omega
                      have hxm : x ≤ ((sK l p z k).length : Int) := by have := HXJ.out; omega
                      clear o0 o1 o2 o3 o4 o5 t0 t1 t2 t3 t4 t5 b67 b7 HBF HXJ ex dx hj0
                      have HIN : Hid (sK l p z (k + 1) = (sK l p z k).take (jj + 1) ++ o :: (sK l p z k).drop (jj + 1)) := by show _ = _; rw [HSK.out]; exact ins_at HO.out HSRT.out (by omega) HDR.out HLAST.out
                      have y0 := keepF HB58.out xo0
                      have y1 := keepF HB58.out xo1
                      have y2 := keepF HB58.out xo2
                      have y3 := keepF HB58.out xo3
                      have y4 := keepF HB58.out xo4
                      have y5 := keepF HB58.out xo5
                      go_wp2_with (at_builtin; refine wpList_append_own _ rfl _ _ 25 rfl w8.heap.size 31 i0 (.agg #[.int .i64 0, .int .i64 0, .int .i64 0, .int .i64 0, .int .i64 0, .bool false]) 6 48 Try.underlying25 hi_ hi0 hi1 hi2 rfl (by decide) (.slice none 0 0) 0 [] rfl (World.ownsRow_nil _ _ _ _) ⟨gs, 0, none⟩ (jj + 1) _ (odL ((sK l p z k).take (jj + 1))) rfl (by rw [odL_len, List.length_take, Nat.min_eq_left (by omega)]) ?c1 ?c2 ?c3 ?c4 ?c5 ?_)
                      case c1 =>
                        intro q u hq
                        rw [Addr.add_lit]
                        exact odL_take_cells (g := gs) (off := 0) (fun k' x' hx' i u hu => HSC.out _ HB58.out k' x' (by rw [List.getElem?_take] at hx'; split at hx'; exact hx'; cases hx') i u hu) q u hq
                      case c2 => exact odL_one _
                      case c3 => unfold maxLen; omega
                      case c4 => omega
                      case c5 => exact Nat.le_refl _
                      intro v1 w9 own9 gr9 _
                      have b89 : Below w8.heap.size w8 w9 := belG (Below.refl _ _) gr9 (fun k hk => by cases hk) (Nat.le_refl _)
                      have z9 := b89.size
                      have q0 := keepF b89 y0
                      have q1 := keepF b89 y1
                      have q2 := keepF b89 y2
                      have q3 := keepF b89 y3
                      have q4 := keepF b89 y4
                      have q5 := keepF b89 y5
                      go_wp2_with (at_builtin; refine wpList_append_own _ rfl _ _ 25 rfl w8.heap.size 31 i0 (.agg #[.int .i64 0, .int .i64 0, .int .i64 0, .int .i64 0, .int .i64 0, .bool false]) 6 48 Try.underlying25 hi_ hi0 hi1 hi2 rfl (by decide) _ _ _ rfl (own9.alloc _) ⟨w9.heap.size, 0, none⟩ 1 1 [.int .i64 o.id, .int .i64 o.own, .int .i64 o.pr, .int .i64 o.am, .int .i64 o.pl, .bool o.by] rfl rfl ?c1 ?c2 ?c3 ?c4 ?c5 ?_)
                      case c1 =>
                        intro q u hq
                        rw [Addr.add_lit, Nat.zero_add]
                        exact (blk_new w9 w9.heap.size _ _ rfl).cell (by simpa using hq)
                      case c2 => intro u hu; simp at hu; rcases hu with rfl | rfl | rfl | rfl | rfl | rfl <;> rfl
                      case c3 => unfold maxLen; omega
                      case c4 => omega
                      case c5 => simp; omega
                      intro v2 w10 own10 gr10 _
                      have b810 : Below w8.heap.size w8 w10 := belG (b89.alloc (by omega) _) gr10 (fun k hk => (World.ownsRow.lt own9 k hk).1) (by simp; omega)
                      have z10 := b810.size
                      by_cases hce : scap = (jj + 1)
                      · have hm : (sK l p z k).length = (jj + 1) := by omega
                        subst hce
                        go_wp2_with (at_builtin; refine wpList_append_own _ rfl _ _ 25 rfl w8.heap.size 31 i0 (.agg #[.int .i64 0, .int .i64 0, .int .i64 0, .int .i64 0, .int .i64 0, .bool false]) 6 48 Try.underlying25 hi_ hi0 hi1 hi2 rfl (by decide) _ _ _ rfl own10 ⟨gs, 0, none⟩ 0 _ [] rfl rfl ?c1 ?c2 ?c3 ?c4 ?c5 ?_)
                        case c1 => intro q u hq; simp at hq
                        case c2 => intro u hu; cases hu
                        case c3 => unfold maxLen; omega
                        case c4 => omega
                        case c5 => omega
                        intro v3 w11 own11 gr11 _
                        have b811 : Below w8.heap.size w8 w11 := belG b810 gr11 (fun k hk => (World.ownsRow.lt own10 k hk).1) (by omega)
                        have hfin : w11.ownsRow wt.heap.size 31 6 v3 (sK l p z (k + 1)).length (odL (sK l p z (k + 1))) := by
                          rw [HIN.out]
                          have hdn : (sK l p z k).drop (jj + 1) = [] := List.drop_eq_nil_of_le (by omega)
                          rw [hdn]
                          have e1 : ((sK l p z k).take (jj + 1) ++ [o]).length = (jj + 1) + 1 := by rw [List.length_append, List.length_take]; simp; omega
                          have e2 : odL ((sK l p z k).take (jj + 1) ++ [o]) = odL ((sK l p z k).take (jj + 1)) ++ (.int .i64 o.id :: .int .i64 o.own :: .int .i64 o.pr :: .int .i64 o.am :: .int .i64 o.pl :: .bool o.by :: []) := by rw [odL_app]; rfl
                          rw [e1, e2]
                          exact own_base (b := w8.heap.size) (by simpa using own11) (by omega)
                        go_wp2
                        exact ⟨⟨k + 1, by omega, by norm_cast, hfin, Below.trans HB5.out ((Below.trans HB58.out (b811.mono (Below.size HB58.out))).mono (Below.size HB5.out))⟩, by simp [intOf]; omega⟩
                      · go_wp2_with (at_builtin; refine wpList_append_own _ rfl _ _ 25 rfl w8.heap.size 31 i0 (.agg #[.int .i64 0, .int .i64 0, .int .i64 0, .int .i64 0, .int .i64 0, .bool false]) 6 48 Try.underlying25 hi_ hi0 hi1 hi2 rfl (by decide) _ _ _ rfl own10 ⟨gs, (jj + 1) * 6, none⟩ ((sK l p z k).length - (jj + 1)) _ (odL ((sK l p z k).drop (jj + 1))) rfl (by rw [odL_len, List.length_drop]) ?c1 ?c2 ?c3 ?c4 ?c5 ?_)
                        case c1 =>
                          intro q u hq
                          rw [Addr.add_lit]
                          have hh := odL_take_cells (g := gs) (off := (jj + 1) * 6) (S := (sK l p z k).drop (jj + 1)) (fun k' x' hx' i u hu => by
                            have h1 := HSC.out _ (Below.trans HB58.out (b810.mono (Below.size HB58.out))) ((jj + 1) + k') x' (by rw [List.getElem?_drop] at hx'; exact hx') i u hu
                            rw [show 0 + ((jj + 1) + k') * 6 + i = (jj + 1) * 6 + k' * 6 + i by omega] at h1
                            exact h1) q u hq
                          exact hh
                        case c2 => exact odL_one _
                        case c3 => unfold maxLen; omega
                        case c4 => omega
                        case c5 => omega
                        intro v3 w11 own11 gr11 _
                        have b811 : Below w8.heap.size w8 w11 := belG b810 gr11 (fun k hk => (World.ownsRow.lt own10 k hk).1) (by omega)
                        have hfin : w11.ownsRow wt.heap.size 31 6 v3 (sK l p z (k + 1)).length (odL (sK l p z (k + 1))) := by
                          rw [HIN.out]
                          have e1 : ((sK l p z k).take (jj + 1) ++ o :: (sK l p z k).drop (jj + 1)).length = (jj + 1) + 1 + ((sK l p z k).length - (jj + 1)) := by rw [List.length_append, List.length_cons, List.length_take, List.length_drop]; omega
                          have e2 : odL ((sK l p z k).take (jj + 1) ++ o :: (sK l p z k).drop (jj + 1)) = odL ((sK l p z k).take (jj + 1)) ++ (.int .i64 o.id :: .int .i64 o.own :: .int .i64 o.pr :: .int .i64 o.am :: .int .i64 o.pl :: .bool o.by :: odL ((sK l p z k).drop (jj + 1))) := by rw [odL_app, odL_cons]; rfl
                          rw [e1, e2]
                          exact own_base (b := w8.heap.size) (by simpa using own11) (by omega)
                        go_wp2
                        exact ⟨⟨k + 1, by omega, by norm_cast, hfin, Below.trans HB5.out ((Below.trans HB58.out (b811.mono (Below.size HB58.out))).mono (Below.size HB5.out))⟩, by simp [intOf]; omega⟩
                    · rw [hlt3] at HBF
                      have HL3 : Hid _ := hlt3
                      clear hlt3
                      go_wp2_with fail
                      refine wp_region_held_drew (S := (fun wx => wx.cell? ⟨w4.heap.size, 0, none⟩ = some (.int .i64 o.id) ∧ wx.cell? ⟨w4.heap.size, 1, none⟩ = some (.int .i64 o.own) ∧ wx.cell? ⟨w4.heap.size, 2, none⟩ = some (.int .i64 o.pr) ∧ wx.cell? ⟨w4.heap.size, 3, none⟩ = some (.int .i64 o.am) ∧ wx.cell? ⟨w4.heap.size, 4, none⟩ = some (.int .i64 o.pl) ∧ wx.cell? ⟨w4.heap.size, 5, none⟩ = some (.bool o.by) ∧ wx.cell? ⟨gs, jj * 6, none⟩ = some (.int .i64 y.id) ∧ wx.cell? ⟨gs, jj * 6 + 1, none⟩ = some (.int .i64 y.own) ∧ wx.cell? ⟨gs, jj * 6 + 2, none⟩ = some (.int .i64 y.pr) ∧ wx.cell? ⟨gs, jj * 6 + 3, none⟩ = some (.int .i64 y.am) ∧ wx.cell? ⟨gs, jj * 6 + 4, none⟩ = some (.int .i64 y.pl) ∧ wx.cell? ⟨gs, jj * 6 + 5, none⟩ = some (.bool y.by))) (by kernel_rfl) ⟨o0, o1, o2, o3, o4, o5, t0, t1, t2, t3, t4, t5⟩ (fun hS => ?_)
                      refine wpAnyH_take (i := 0) (v := (.int .i64 x)) rfl (by kernel_rfl) (by kernel_rfl) (by kernel_rfl) (fun _ _ _ h => h) (Or.inl ⟨by kernel_rfl, fun w hS => by obtain ⟨s0, s1, s2, s3, s4, s5, s6, s7, s8, s9, s10, s11⟩ := hS; go_simp⟩) hS ?_
                      refine wpAnyH_take (i := 1) (v := (.bool true)) rfl (by kernel_rfl) (by kernel_rfl) (by kernel_rfl) (fun _ _ _ h => h) (Or.inl ⟨by kernel_rfl, fun w hS => by obtain ⟨s0, s1, s2, s3, s4, s5, s6, s7, s8, s9, s10, s11⟩ := hS; go_simp⟩) hS ?_
                      refine wpAnyH_take (i := 2) (v := (.bool true)) rfl (by kernel_rfl) (by kernel_rfl) (by kernel_rfl) (fun _ _ _ h => h) (Or.inl ⟨by kernel_rfl, fun w hS => by obtain ⟨s0, s1, s2, s3, s4, s5, s6, s7, s8, s9, s10, s11⟩ := hS; go_simp⟩) hS ?_
                      refine wpAnyH_take (i := 3) (v := (.agg #[.int .i64 o.id, .int .i64 o.own, .int .i64 o.pr, .int .i64 o.am, .int .i64 o.pl, .bool o.by])) rfl (by kernel_rfl) (by kernel_rfl) (by kernel_rfl) (fun _ _ _ h => h) (Or.inl ⟨by kernel_rfl, fun w hS => by obtain ⟨s0, s1, s2, s3, s4, s5, s6, s7, s8, s9, s10, s11⟩ := hS; go_simp⟩) hS ?_
                      refine wpAnyH_take (i := 4) (v := (.slice (some ⟨gs, 0, none⟩) (sK l p z k).length scap)) rfl (by kernel_rfl) (by kernel_rfl) (by kernel_rfl) (fun _ _ _ h => h) (Or.inl ⟨by kernel_rfl, fun w hS => by obtain ⟨s0, s1, s2, s3, s4, s5, s6, s7, s8, s9, s10, s11⟩ := hS; go_simp⟩) hS ?_
                      refine wpAnyH_take (i := 5) (v := (.int .i64 x)) rfl (by kernel_rfl) (by kernel_rfl) (by kernel_rfl) (fun _ _ _ h => h) (Or.inl ⟨by kernel_rfl, fun w hS => by obtain ⟨s0, s1, s2, s3, s4, s5, s6, s7, s8, s9, s10, s11⟩ := hS; go_simp⟩) hS ?_
                      refine wpAnyH_take (i := 6) (v := (.int .i64 (jj : Int))) rfl (by kernel_rfl) (by kernel_rfl) (by kernel_rfl) (fun _ _ _ h => h) (Or.inl ⟨by kernel_rfl, fun w hS => by obtain ⟨s0, s1, s2, s3, s4, s5, s6, s7, s8, s9, s10, s11⟩ := hS; go_simp⟩) hS ?_
                      refine wpAnyH_take (i := 7) (v := (.pointer (some ⟨gs, jj * 6, none⟩))) rfl (by kernel_rfl) (by kernel_rfl) (by kernel_rfl) (fun _ _ _ h => h) (Or.inl ⟨by kernel_rfl, fun w hS => by obtain ⟨s0, s1, s2, s3, s4, s5, s6, s7, s8, s9, s10, s11⟩ := hS; go_simp⟩) hS ?_
                      refine wpAnyH_take (i := 8) (v := (.agg #[.int .i64 y.id, .int .i64 y.own, .int .i64 y.pr, .int .i64 y.am, .int .i64 y.pl, .bool y.by])) rfl (by kernel_rfl) (by kernel_rfl) (by kernel_rfl) (fun _ _ _ h => h) (Or.inl ⟨by kernel_rfl, fun w hS => by obtain ⟨s0, s1, s2, s3, s4, s5, s6, s7, s8, s9, s10, s11⟩ := hS; go_simp⟩) hS ?_
                      refine wpAnyH_ready (rs := [9]) (by kernel_rfl) (by simp) ?_
                      refine AllReadyH.cons rfl (fun K hK => ?_) AllReadyH.nil
                      go_simp
                      refine (HBF.out _).mono ?_
                      rintro e w7 ⟨rfl, b7⟩
                      have b67 : Below w6.heap.size w6 w7 := (Below.refl _ _).drew.trans b7
                      refine hK.out _ _ ⟨keepF b67 o0, keepF b67 o1, keepF b67 o2, keepF b67 o3, keepF b67 o4, keepF b67 o5, keepF b67 t0, keepF b67 t1, keepF b67 t2, keepF b67 t3, keepF b67 t4, keepF b67 t5⟩ (fun hS => ?_)
                      clear hK
                      refine wpAnyH_take (i := 10) (v := (.bool true)) rfl (by kernel_rfl) (by kernel_rfl) (by kernel_rfl) (fun _ _ _ h => h) (Or.inl ⟨by kernel_rfl, fun w hS => by obtain ⟨s0, s1, s2, s3, s4, s5, s6, s7, s8, s9, s10, s11⟩ := hS; go_simp⟩) hS ?_
                      refine wpAnyH_done (by kernel_rfl) ?_ _
                      clear hS
                      have HDR2 : Hid (∀ y' ∈ (sK l p z k).drop jj, lT z o y' = true) := fun y' hy' => by
                        have hjs : jj < (sK l p z k).length := by omega
                        rw [List.drop_eq_getElem_cons hjs] at hy'
                        rcases List.mem_cons.1 hy' with e | e
                        · have e2 : (sK l p z k)[jj] = y := (List.getElem?_eq_some_iff.1 HY.out).2
                          rw [e, e2]; exact HL3.out
                        · exact HDR.out y' e
                      have HB57 : Hid (Below w5.heap.size w5 w7) := Below.trans HB56.out (b67.mono h56)
                      clear o0 o1 o2 o3 o4 o5 t0 t1 t2 t3 t4 t5
                      go_wp2
                      exact ⟨⟨jj, (jj : Int), by omega, rfl, rfl, by omega, by omega, HDR2, HB57⟩, by simp [intOf]; omega⟩
                  · have hx00 : x = 0 := by omega
                    have dx : decide (0 < x) = false := decide_eq_false hj0
                    have hj00 : j = 0 := by have := HXJ.out; omega
                    subst hj00 hx00
                    go_wp2_with fail
                    go_quiet (fail)
                    rename_i nq
                    obtain ⟨w8, hw8⟩ : ∃ w8, w8 = w6.drewN nq := ⟨_, rfl⟩
                    have HB58 : Hid (Below w5.heap.size w5 w8) := by rw [hw8]; exact below_drewN HB56.out _
                    have h8 := HB58.out.size
                    rw [← hw8]
                    clear hw8 HXJ dx hj0
                    have HIN : Hid (sK l p z (k + 1) = o :: sK l p z k) := by show _ = _; rw [HSK.out]; exact ins_at HO.out HSRT.out (Nat.zero_le _) HDR.out (fun y' _ => Or.inl rfl)
                    have y0 := keepF HB58.out xo0
                    have y1 := keepF HB58.out xo1
                    have y2 := keepF HB58.out xo2
                    have y3 := keepF HB58.out xo3
                    have y4 := keepF HB58.out xo4
                    have y5 := keepF HB58.out xo5
                    go_wp2_with (at_builtin; refine wpList_append_own _ rfl _ _ 25 rfl w8.heap.size 31 i0 (.agg #[.int .i64 0, .int .i64 0, .int .i64 0, .int .i64 0, .int .i64 0, .bool false]) 6 48 Try.underlying25 hi_ hi0 hi1 hi2 rfl (by decide) (.slice none 0 0) 0 [] rfl (World.ownsRow_nil _ _ _ _) ⟨gs, 0, none⟩ 0 _ [] rfl rfl ?c1 ?c2 ?c3 ?c4 ?c5 ?_)
                    case c1 => intro q u hq; simp at hq
                    case c2 => intro u hu; cases hu
                    case c3 => unfold maxLen; omega
                    case c4 => omega
                    case c5 => exact Nat.le_refl _
                    intro v1 w9 own9 gr9 hv1
                    have hvn : v1 = .slice none 0 0 := by first | exact hv1 | exact hv1.2 ⟨rfl, rfl⟩
                    subst hvn
                    have b89 : Below w8.heap.size w8 w9 := belG (Below.refl _ _) gr9 (fun k hk => by cases hk) (Nat.le_refl _)
                    have z9 := b89.size
                    have q0 := keepF b89 y0
                    have q1 := keepF b89 y1
                    have q2 := keepF b89 y2
                    have q3 := keepF b89 y3
                    have q4 := keepF b89 y4
                    have q5 := keepF b89 y5
                    clear own9 gr9 hv1
                    go_wp2_with (at_builtin; refine wpList_append_own _ rfl _ _ 25 rfl w8.heap.size 31 i0 (.agg #[.int .i64 0, .int .i64 0, .int .i64 0, .int .i64 0, .int .i64 0, .bool false]) 6 48 Try.underlying25 hi_ hi0 hi1 hi2 rfl (by decide) (.slice none 0 0) 0 [] rfl (World.ownsRow_nil _ _ _ _) ⟨w9.heap.size, 0, none⟩ 1 1 [.int .i64 o.id, .int .i64 o.own, .int .i64 o.pr, .int .i64 o.am, .int .i64 o.pl, .bool o.by] rfl rfl ?c1 ?c2 ?c3 ?c4 ?c5 ?_)
                    case c1 =>
                      intro q u hq
                      rw [Addr.add_lit, Nat.zero_add]
                      exact (blk_new w9 w9.heap.size _ _ rfl).cell (by simpa using hq)
                    case c2 => intro u hu; simp at hu; rcases hu with rfl | rfl | rfl | rfl | rfl | rfl <;> rfl
                    case c3 => unfold maxLen; omega
                    case c4 => omega
                    case c5 => simp; omega
                    intro v2 w10 own10 gr10 _
                    have b810 : Below w8.heap.size w8 w10 := belG (b89.alloc (by omega) _) gr10 (fun k hk => by cases hk) (by simp; omega)
                    have z10 := b810.size
                    go_wp2_with (at_builtin; refine wpList_append_own _ rfl _ _ 25 rfl w8.heap.size 31 i0 (.agg #[.int .i64 0, .int .i64 0, .int .i64 0, .int .i64 0, .int .i64 0, .bool false]) 6 48 Try.underlying25 hi_ hi0 hi1 hi2 rfl (by decide) _ _ _ rfl own10 ⟨gs, 0, none⟩ (sK l p z k).length _ (odL (sK l p z k)) rfl (odL_len _) ?c1 ?c2 ?c3 ?c4 ?c5 ?_)
                    case c1 =>
                      intro q u hq
                      rw [Addr.add_lit]
                      exact odL_take_cells (g := gs) (off := 0) (fun k' x' hx' i u hu => HSC.out _ (Below.trans HB58.out (b810.mono (Below.size HB58.out))) k' x' hx' i u hu) q u hq
                    case c2 => exact odL_one _
                    case c3 => unfold maxLen; omega
                    case c4 => omega
                    case c5 => omega
                    intro v3 w11 own11 gr11 _
                    have b811 : Below w8.heap.size w8 w11 := belG b810 gr11 (fun k hk => (World.ownsRow.lt own10 k hk).1) (by omega)
                    have hfin : w11.ownsRow wt.heap.size 31 6 v3 (sK l p z (k + 1)).length (odL (sK l p z (k + 1))) := by
                      rw [HIN.out]
                      have e1 : (o :: sK l p z k).length = 1 + (sK l p z k).length := by rw [List.length_cons]; omega
                      have e2 : odL (o :: sK l p z k) = .int .i64 o.id :: .int .i64 o.own :: .int .i64 o.pr :: .int .i64 o.am :: .int .i64 o.pl :: .bool o.by :: odL (sK l p z k) := by rw [odL_cons]; rfl
                      rw [e1, e2]
                      exact own_base (b := w8.heap.size) (by simpa using own11) (by omega)
                    go_wp2
                    exact ⟨⟨k + 1, by omega, by norm_cast, hfin, Below.trans HB5.out ((Below.trans HB58.out (b811.mono (Below.size HB58.out))).mono (Below.size HB5.out))⟩, by simp [intOf]; omega⟩
      · have hkl : ¬ (k : Int) < (l.length : Int) := by omega
        have hkk : k = l.length := by omega
        have HST : Hid (sK l p z k = sT l p z) := by show _ = _; rw [hkk]; unfold sK sT; rw [List.take_length]
        have HMY : Hid (∀ y ∈ sK l p z k, 1 ≤ y.am ∧ y.am ≤ 1048576) := fun y hy => may_am (sK_may hy)
        have HNX : Hid (fT l p n (z + 1) = fT l p n z ++ fll ((sK l p z k).drop 0) n) := by show _ = _; rw [fT_next hz01, HST.out]; rfl
        have HOUT5 : Hid _ := ownB HOUT.out HB4.out
        have HBW4 : Hid (Below w.heap.size w w4) := Below.trans HBT.out (HB4.out.mono hbt)
        have hw4s := HBW4.out.size
        have HSD4 : Hid _ := HSIDE.out
        have hm64 : (sK l p z k).length ≤ 64 := by omega
        clear hkk
        go_wp2
        go_loopw [7, 15, 16] (fun ov lv iv w6 => ∃ (i : Nat) (left : Int) (fl : List Fi), i ≤ (sK l p z k).length ∧ iv = .int .i64 i ∧ lv = .int .i64 left ∧ -9223372036854775808 ≤ left ∧ left ≤ 9223372036854775807 ∧ fl.length ≤ 128 + i ∧ Hid (fT l p n (z + 1) = fl ++ fll ((sK l p z k).drop i) left) ∧ Hid (w6.ownsRow w.heap.size 62 3 ov fl.length (fiL fl)) ∧ Hid (Below w.heap.size w w6) ∧ Hid (w6.ownsRow wt.heap.size 31 6 (.slice sa (sK l p z k).length scap) (sK l p z k).length (odL (sK l p z k)))) (fun _ _ iv _ => (sK l p z k).length - (intOf iv).toNat)
        case atStart => exact ⟨0, n, fT l p n z, Nat.zero_le _, rfl, rfl, hr.1, hr.2, by omega, HNX, HOUT5, HBW4, HSD4⟩
        case round =>
          obtain ⟨w6, hw6⟩ : ∃ w6, w6 = wr := ⟨_, rfl⟩
          subst hw6
          obtain ⟨i, left, fl, hi, rfl, rfl, hl1, hl2, hfd, HFL, HOF, HBW6, HSD6⟩ := hrel
          obtain ⟨fa, fcap, rfl⟩ := own_form HOF.out
          have hw6s := HBW6.out.size
          by_cases hlt4 : i < (sK l p z k).length
          · have hil : (i : Int) < ((sK l p z k).length : Int) := by omega
            by_cases hlf : 0 < left
            · have dl : decide (0 < left) = true := decide_eq_true hlf
              obtain ⟨y, hy⟩ : ∃ y, (sK l p z k)[i]? = some y := ⟨(sK l p z k)[i], by simp [hlt4]⟩
              have ham := HMY.out y (List.mem_of_getElem? hy)
              obtain ⟨gs, rfl⟩ : ∃ gs, sa = some ⟨gs, 0, none⟩ := by
                rcases HSD6.out.2 with ⟨h1, h2⟩ | ⟨g, cap, cur, h1, _⟩
                · exfalso; omega
                · injection h1 with h1 _ _; exact ⟨g, h1⟩
              have HFN : Hid ((Value.slice fa fl.length fcap).ownBlock ≠ some gs) := fun e => by
                obtain ⟨c1, h1⟩ := own_heapF HOF.out e
                obtain ⟨c2, h2⟩ := own_heapF HSD6.out (k := gs) rfl
                rw [h1] at h2
                simp only [Option.some.injEq, Obj.cells.injEq] at h2
                exact absurd h2.2.1 (by decide)
              have tc : ∀ (j : Nat) (u : Value), (oC y)[j]? = some u → w6.cell? ⟨gs, i * 6 + j, none⟩ = some u := fun j u hu => by
                have q := World.ownsRow.cells HSD6.out (g := gs) rfl (i * 6 + j) u (odL_get _ i j y u hy hu)
                rw [Addr.add_lit, Nat.zero_add] at q
                exact q
              have t0 : w6.cell? ⟨gs, i * 6, none⟩ = some (.int .i64 y.id) := tc 0 _ rfl
              have t1 : w6.cell? ⟨gs, i * 6 + 1, none⟩ = some (.int .i64 y.own) := tc 1 _ rfl
              have t3 : w6.cell? ⟨gs, i * 6 + 3, none⟩ = some (.int .i64 y.am) := tc 3 _ rfl
              obtain ⟨mm, hmm⟩ : ∃ mm, min left y.am = mm := ⟨_, rfl⟩
              have hmm1 : 1 ≤ mm ∧ mm ≤ left := by omega
              have HST2 : Hid (fll ((sK l p z k).drop i) left = (y.id, y.own, mm) :: fll ((sK l p z k).drop (i + 1)) (left - mm)) := by
                show _ = _
                have e1 : (sK l p z k).drop i = y :: (sK l p z k).drop (i + 1) := by
                  rw [List.drop_eq_getElem_cons hlt4, (List.getElem?_eq_some_iff.1 hy).2]
                have e2 : min y.am left = mm := by omega
                rw [e1, fll, e2, if_neg (by omega)]
              have rwl : IntKind.i64.wrap (left - mm) = left - mm := by rw [IntKind.wrap_i64]; omega
              clear tc hy
              go_wp2_with fail
              refine wp_region_held_drew (S := (fun wx => wx.cell? ⟨gs, i * 6, none⟩ = some (.int .i64 y.id) ∧ wx.cell? ⟨gs, i * 6 + 1, none⟩ = some (.int .i64 y.own))) (by kernel_rfl) ⟨t0, t1⟩ (fun hS => ?_)
              refine wpAnyH_take (i := 0) (v := (.slice fa fl.length fcap)) rfl (by kernel_rfl) (by kernel_rfl) (by kernel_rfl) (fun _ _ _ h => h) (Or.inl ⟨by rfl, fun w hS => by obtain ⟨s0, s1⟩ := hS; go_simp⟩) hS ?_
              refine wpAnyH_take (i := 1) (v := (.slice (some ⟨gs, 0, none⟩) (sK l p z k).length scap)) rfl (by kernel_rfl) (by kernel_rfl) (by kernel_rfl) (fun _ _ _ h => h) (Or.inl ⟨by rfl, fun w hS => by obtain ⟨s0, s1⟩ := hS; go_simp⟩) hS ?_
              refine wpAnyH_take (i := 2) (v := (.int .i64 i)) rfl (by kernel_rfl) (by kernel_rfl) (by kernel_rfl) (fun _ _ _ h => h) (Or.inl ⟨by rfl, fun w hS => by obtain ⟨s0, s1⟩ := hS; go_simp⟩) hS ?_
              refine wpAnyH_take (i := 3) (v := (.pointer (some ⟨gs, i * 6, none⟩))) rfl (by kernel_rfl) (by kernel_rfl) (by kernel_rfl) (fun _ _ _ h => h) (Or.inl ⟨by rfl, fun w hS => by obtain ⟨s0, s1⟩ := hS; go_simp⟩) hS ?_
              refine wpAnyH_take (i := 4) (v := (.pointer (some ⟨gs, i * 6, none⟩))) rfl (by kernel_rfl) (by kernel_rfl) (by kernel_rfl) (fun _ _ _ h => h) (Or.inl ⟨by rfl, fun w hS => by obtain ⟨s0, s1⟩ := hS; go_simp⟩) hS ?_
              refine wpAnyH_take (i := 5) (v := (.int .i64 y.id)) rfl (by kernel_rfl) (by kernel_rfl) (by kernel_rfl) (fun _ _ _ h => h) (Or.inl ⟨by rfl, fun w hS => by obtain ⟨s0, s1⟩ := hS; go_simp⟩) hS ?_
              refine wpAnyH_take (i := 6) (v := (.slice (some ⟨gs, 0, none⟩) (sK l p z k).length scap)) rfl (by kernel_rfl) (by kernel_rfl) (by kernel_rfl) (fun _ _ _ h => h) (Or.inl ⟨by rfl, fun w hS => by obtain ⟨s0, s1⟩ := hS; go_simp⟩) hS ?_
              refine wpAnyH_take (i := 7) (v := (.int .i64 i)) rfl (by kernel_rfl) (by kernel_rfl) (by kernel_rfl) (fun _ _ _ h => h) (Or.inl ⟨by rfl, fun w hS => by obtain ⟨s0, s1⟩ := hS; go_simp⟩) hS ?_
              refine wpAnyH_take (i := 8) (v := (.pointer (some ⟨gs, i * 6, none⟩))) rfl (by kernel_rfl) (by kernel_rfl) (by kernel_rfl) (fun _ _ _ h => h) (Or.inl ⟨by rfl, fun w hS => by obtain ⟨s0, s1⟩ := hS; go_simp⟩) hS ?_
              refine wpAnyH_take (i := 9) (v := (.pointer (some ⟨gs, i * 6 + 1, none⟩))) rfl (by kernel_rfl) (by kernel_rfl) (by kernel_rfl) (fun _ _ _ h => h) (Or.inl ⟨by rfl, fun w hS => by obtain ⟨s0, s1⟩ := hS; go_simp⟩) hS ?_
              refine wpAnyH_take (i := 10) (v := (.int .i64 y.own)) rfl (by kernel_rfl) (by kernel_rfl) (by kernel_rfl) (fun _ _ _ h => h) (Or.inl ⟨by rfl, fun w hS => by obtain ⟨s0, s1⟩ := hS; go_simp⟩) hS ?_
              refine wpAnyH_take (i := 11) (v := (.int .i64 mm)) rfl (by kernel_rfl) (by kernel_rfl) (by kernel_rfl) (fun _ _ _ h => h) (Or.inl ⟨by rfl, fun w hS => by obtain ⟨s0, s1⟩ := hS; go_simp⟩) hS ?_
              refine wpAnyH_take (i := 12) (v := (.agg #[.int .i64 y.id, .int .i64 y.own, .int .i64 mm])) rfl (by kernel_rfl) (by kernel_rfl) (by kernel_rfl) (fun _ _ _ h => h) (Or.inl ⟨by rfl, fun w hS => by obtain ⟨s0, s1⟩ := hS; go_simp⟩) hS ?_
              refine wpAnyH_ready (rs := [13]) (by kernel_rfl) (by simp) ?_
              refine AllReadyH.cons rfl (fun K hK => ?_) AllReadyH.nil
              go_simp
              have bd : Below w6.heap.size w6 (w6.drew.alloc (.cells #[.int .i64 y.id, .int .i64 y.own, .int .i64 mm] 62)) := (Below.refl _ _).drew.alloc (Nat.le_refl _) _
              refine hK.out _ _ ⟨keepF bd t0, keepF bd t1⟩ (fun hS => ?_)
              clear hK
              refine wpAnyH_ready (rs := [14]) (by kernel_rfl) (by simp) ?_
              refine AllReadyH.cons rfl (fun K hK => ?_) AllReadyH.nil
              refine step_ifF rfl ?_
              refine wp_append_own _ (.tmp 118) (.tmp 131) 46 (by kernel_rfl) w.heap.size 62 iF (.agg #[.int .i64 0, .int .i64 0, .int .i64 0]) 3 24 Try.underlying46 hf_ hf0 hf1 hf2 rfl (by decide) (.slice fa fl.length fcap) fl.length (fiL fl) (by kernel_rfl) ((ownB HOF.out (Below.refl _ _).drew).alloc _) ⟨w6.heap.size, 0, none⟩ 1 1 [.int .i64 y.id, .int .i64 y.own, .int .i64 mm] (by kernel_rfl) rfl ?_ ?_ ?_ ?_ ?_ ?_
              · intro q u hq
                rw [Addr.add_lit, Nat.zero_add]
                exact (blk_new w6.drew w6.heap.size _ _ rfl).cell (by simpa using hq)
              · intro u hu
                simp at hu
                rcases hu with rfl | rfl | rfl <;> rfl
              · unfold maxLen; omega
              · omega
              · simp; omega
              intro v' w7 own7 gr7 _
              have bw7 : Below w.heap.size w w7 := belG ((HBW6.out.drew).alloc (by show w.heap.size ≤ w6.heap.size; omega) _) gr7 (fun k hk => (World.ownsRow.lt HOF.out k hk).1) (by simp; omega)
              have hne7 : ∀ q, (Value.slice fa fl.length fcap).ownBlock = some q → q ≠ gs := fun q hq e => HFN.out (by rw [← e]; exact hq)
              have cs7 : ∀ (a : Addr) (u : Value), a.block = gs → w6.cell? a = some u → w7.cell? a = some u := fun a u ha hu => by
                have hlt := World.block_lt_of_cell? w6 _ hu
                have h1 : (w6.drew.alloc (.cells #[.int .i64 y.id, .int .i64 y.own, .int .i64 mm] 62)).cell? a = some u := keepF bd hu
                have h2 := gr7.block a.block (by simp; omega) (fun e => hne7 _ e.symm ha)
                exact (World.cell?_of_block h2).trans h1
              refine hK.out _ _ ⟨cs7 _ _ rfl t0, cs7 _ _ rfl t1⟩ (fun hS => ?_)
              clear hK
              refine wpAnyH_take (i := 15) (v := v') rfl (by kernel_rfl) (by kernel_rfl) (by kernel_rfl) (fun _ _ _ h => h) (Or.inl ⟨by rfl, fun w hS => by go_simp⟩) hS ?_
              refine wpAnyH_done (by kernel_rfl) ?_ _
              clear hS
              have HFL2 : Hid (fT l p n (z + 1) = (fl ++ [(y.id, y.own, mm)]) ++ fll ((sK l p z k).drop (i + 1)) (left - mm)) := by show _ = _; rw [HFL.out, HST2.out, List.append_assoc]; rfl
              have HOF7 : Hid (w7.ownsRow w.heap.size 62 3 v' (fl ++ [(y.id, y.own, mm)]).length (fiL (fl ++ [(y.id, y.own, mm)]))) := by
                have e1 : (fl ++ [(y.id, y.own, mm)]).length = fl.length + 1 := by rw [List.length_append]; rfl
                have e2 : fiL (fl ++ [(y.id, y.own, mm)]) = fiL fl ++ [.int .i64 y.id, .int .i64 y.own, .int .i64 mm] := by rw [fiL_app]; rfl
                show _
                rw [e1, e2]; exact own7
              have HSD7 : Hid (w7.ownsRow wt.heap.size 31 6 (.slice (some ⟨gs, 0, none⟩) (sK l p z k).length scap) (sK l p z k).length (odL (sK l p z k))) := ((ownB HSD6.out (Below.refl _ _).drew).alloc (.cells #[.int .i64 y.id, .int .i64 y.own, .int .i64 mm] 62)).kept gr7 (Or.inr (fun e => HFN.out e.symm))
              have HBW7 : Hid _ := bw7
              clear own7 gr7 bw7 cs7 hne7 t0 t1 t3 bd
              go_wp2
              exact ⟨⟨i + 1, left - mm, fl ++ [(y.id, y.own, mm)], by omega, by norm_cast, rfl, by omega, by omega, by rw [List.length_append]; simp; omega, HFL2, HOF7, HBW7, HSD7⟩, by simp [intOf]; omega⟩
            · have dl : decide (0 < left) = false := decide_eq_false hlf
              have HFN2 : Hid (fT l p n (z + 1) = fl) := by show _ = _; rw [HFL.out, fll_noneF (by omega), List.append_nil]
              have HOF2 : Hid _ := HOF.out
              go_wp2
              exact ⟨⟨z + 1, by omega, by omega, by norm_cast, by rw [HFN2.out]; exact HOF2.out, HBW6⟩, by simp [intOf]; omega⟩
          · have hil : ¬ (i : Int) < ((sK l p z k).length : Int) := by omega
            have HFN2 : Hid (fT l p n (z + 1) = fl) := by show _ = _; rw [HFL.out, List.drop_eq_nil_of_le (by omega)]; simp [fll]
            have HOF2 : Hid _ := HOF.out
            go_wp2
            exact ⟨⟨z + 1, by omega, by omega, by norm_cast, by rw [HFN2.out]; exact HOF2.out, HBW6⟩, by simp [intOf]; omega⟩
end Go.Proofs.Ytglbfeccdibmiaa
