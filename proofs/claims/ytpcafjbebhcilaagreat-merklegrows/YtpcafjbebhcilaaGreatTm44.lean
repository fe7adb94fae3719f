/- The document's Put and Drop of records. -/
import Derived.Test.YtpcafjbebhcilaaGreatTm41
namespace Go.Proofs.YtpcafjbebhcilaaGreat
open Go.RowKit
set_option linter.unusedSimpArgs false
set_option linter.unusedVariables false

/-- Where a key stands, or would: so many are below it. -/
def pos (l : List Rc) (key : ByteArray) : Nat := l.countP (fun m => lsB m.key key)
theorem Spot.pos {l : List Rc} {key : ByteArray} {r : Nat} (h : Spot l key r) : r = pos l key := by
  unfold Go.Proofs.YtpcafjbebhcilaaGreat.pos
  have hr := h.le
  have e1 : (l.take r).countP (fun m => lsB m.key key) = r := by
    have : (l.take r).countP (fun m => lsB m.key key) = (l.take r).length := by
      rw [List.countP_eq_length]
      intro m hm
      obtain ⟨c, hc, hcr, rfl⟩ := mem_take_get hm
      exact h.lo c hc hcr
    rw [this, List.length_take]; omega
  have e2 : (l.drop r).countP (fun m => lsB m.key key) = 0 := by
    rw [List.countP_eq_zero]
    intro m hm
    obtain ⟨c, hc, hcr, rfl⟩ := mem_drop_get hm
    rw [h.hi c hc hcr]; decide
  conv => rhs; rw [← List.take_append_drop r l, List.countP_append, e1, e2]
  omega
theorem Rising.tail {q : Rc} {t : List Rc} (h : Rising (q :: t)) : Rising t ∧ ∀ m ∈ t, lsB q.key m.key = true := by
  rw [rising_iff, List.pairwise_cons] at h
  exact ⟨(rising_iff t).2 h.2, h.1⟩
theorem Spot.cons {q : Rc} {t : List Rc} {key : ByteArray} {r : Nat} (h : Spot t key r) (hq : lsB q.key key = true) : Spot (q :: t) key (r + 1) := by
  refine ⟨by have := h.le; simp; omega, fun a ha har => ?_, fun a ha har => ?_⟩
  · cases a with
    | zero => exact hq
    | succ a => exact h.lo a (by simpa using ha) (by omega)
  · cases a with
    | zero => omega
    | succ a => exact h.hi a (by simpa using ha) (by omega)
theorem Spot.zero {q : Rc} {t : List Rc} {key : ByteArray} (h : Rising (q :: t)) (hq : lsB q.key key = false) : Spot (q :: t) key 0 := by
  refine ⟨Nat.zero_le _, fun a ha har => by omega, fun a ha har => ?_⟩
  cases a with
  | zero => exact hq
  | succ a =>
    have h1 := h.tail.2 (t[a]'(by simpa using ha)) (List.getElem_mem (by simpa using ha))
    cases h2 : lsB (q :: t)[a + 1].key key
    · rfl
    · rw [lsB_trans h1 h2] at hq; cases hq
theorem spot_ex : ∀ {l : List Rc}, Rising l → ∀ (key : ByteArray), Spot l key (pos l key) := by
  intro l
  induction l with
  | nil => intro _ key; exact ⟨Nat.le_refl _, fun a ha => by simp at ha, fun a ha => by simp at ha⟩
  | cons q t ih =>
    intro h key
    cases hq : lsB q.key key
    · have := Spot.zero h hq
      rw [this.pos] at this
      exact this
    · have := (ih h.tail.1 key).cons hq
      rw [this.pos] at this
      exact this

/-- The document's Put, as it goes along. -/
def goP (m : Rc) : Bool → List Rc → List Rc
  | dn, [] => if dn = true then [] else [m]
  | dn, q :: t => (if (!dn && !lsB q.key m.key) = true then [m] else []) ++ ((if q.key = m.key then [] else [q]) ++ goP m (dn || !lsB q.key m.key) t)
theorem goP_cons (m : Rc) (dn : Bool) (q : Rc) (t : List Rc) : goP m dn (q :: t) = (if (!dn && !lsB q.key m.key) = true then [m] else []) ++ ((if q.key = m.key then [] else [q]) ++ goP m (dn || !lsB q.key m.key) t) := rfl
theorem goP_true (m : Rc) : ∀ (t : List Rc), (∀ q ∈ t, q.key ≠ m.key) → goP m true t = t
  | [], _ => rfl
  | q :: t, h => by
    unfold goP
    rw [if_neg (by simp), if_neg (h q (by simp)), Bool.true_or, goP_true m t (fun q hq => h q (by simp [hq]))]
    rfl
theorem goP_put {l : List Rc} (hri : Rising l) (m : Rc) : goP m false l = putL l (pos l m.key) m := by
  induction l with
  | nil => rfl
  | cons q t ih =>
    have ht := hri.tail
    cases hq : lsB q.key m.key
    · have hp : pos (q :: t) m.key = 0 := (Spot.zero hri hq).pos.symm
      have hne : ∀ c ∈ t, c.key ≠ m.key := fun c hc e => by
        have := ht.2 c hc
        rw [e, hq] at this
        cases this
      rw [hp]
      unfold goP putL hasAt
      rw [hq, if_pos (by decide), Bool.false_or, Bool.not_false, goP_true m t hne]
      by_cases e : q.key = m.key
      · simp [e]
      · simp [e]
    · have hs := spot_ex ht.1 m.key
      have hp : pos (q :: t) m.key = pos t m.key + 1 := (hs.cons hq).pos.symm
      have hne : q.key ≠ m.key := lsB_ne hq
      rw [hp]
      unfold goP
      rw [hq, if_neg (by decide), if_neg hne, Bool.false_or, Bool.not_true, ih ht.1]
      have hh : hasAt (q :: t) (pos t m.key + 1) m.key = hasAt t (pos t m.key) m.key := by unfold hasAt; rw [List.getElem?_cons_succ]
      unfold putL
      rw [hh]
      split <;> simp
theorem filter_drop {l : List Rc} (hri : Rising l) (key : ByteArray) : l.filter (fun q => !decide (q.key = key)) = dropL l (pos l key) key := by
  induction l with
  | nil => rfl
  | cons q t ih =>
    have ht := hri.tail
    cases hq : lsB q.key key
    · have hp : pos (q :: t) key = 0 := (Spot.zero hri hq).pos.symm
      have hne : ∀ c ∈ t, c.key ≠ key := fun c hc e => by
        have := ht.2 c hc
        rw [e, hq] at this
        cases this
      have hf : t.filter (fun q => !decide (q.key = key)) = t := by
        rw [List.filter_eq_self]
        intro c hc
        simp [hne c hc]
      rw [hp]
      unfold dropL hasAt
      by_cases e : q.key = key
      · simp [e, hf]
      · simp [e, hf]
    · have hs := spot_ex ht.1 key
      have hp : pos (q :: t) key = pos t key + 1 := (hs.cons hq).pos.symm
      have hne : q.key ≠ key := lsB_ne hq
      rw [hp, List.filter_cons_of_pos (by simp [hne]), ih ht.1]
      have hh : hasAt (q :: t) (pos t key + 1) key = hasAt t (pos t key) key := by unfold hasAt; rw [List.getElem?_cons_succ]
      unfold dropL
      rw [hh]
      split <;> simp

theorem infoRcd : (Tryz.prog.info? 47).map (fun i => (i.zero, i.size, i.bytes)) = some (some (.agg #[.string ⟨#[]⟩, .string ⟨#[]⟩]), 2, 32) := by kernel_rfl
theorem rcCells_snoc (l : List Rc) (m : Rc) : rcCells (l ++ [m]) = rcCells l ++ [.string m.key, .string m.dat] := by simp [rcCells]
theorem two_new (w : World) (u v : Value) (t : TypeId) : ∀ j q, ([u, v] : List Value)[j]? = some q → (w.alloc (.cells #[u, v] t)).cell? ((⟨w.heap.size, 0, none⟩ : Addr).add j) = some q := fun j q hj => by
  rw [Addr.add_lit, Nat.zero_add]
  exact (blk_new w _ _ _ rfl).cell (by simpa using hj)
theorem two_one (a c : ByteArray) : ∀ u ∈ ([.string a, .string c] : List Value), u.oneCell' = true := by
  intro u hu
  simp only [List.mem_cons, List.not_mem_nil, or_false] at hu
  rcases hu with rfl | rfl <;> rfl

set_option maxHeartbeats 4000000 in
set_option maxRecDepth 100000 in
theorem refDrop_calls (v : Value) (l : List Rc) (key : ByteArray) (w : World) (h : Rcs w v l) (hl : l.length ≤ 4096) :
    Calls Tryz.prog 25 #[v, .string key] w fun e w' => ∃ v', e = .returned v' ∧ w'.ownsRow w.heap.size 47 2 v' (l.filter (fun q => !decide (q.key = key))).length (rcCells (l.filter (fun q => !decide (q.key = key)))) ∧ Below w.heap.size w w' := by
  obtain ⟨i0, hi, hz0, hz1, hz2⟩ := info_parts infoRcd
  obtain ⟨a, cap, rfl⟩ := h.len
  have HH : Hid _ := h
  clear h
  go_enter Tryz.func25, Tryz.ntmps25
  go_wp2_with fail
  go_loopw [5, 6] (fun o i wr => ∃ (k : Nat) (out : List Rc), k ≤ l.length ∧ out.length ≤ k ∧ i = .int .i64 k ∧ Hid (out ++ (l.drop k).filter (fun q => !decide (q.key = key)) = l.filter (fun q => !decide (q.key = key))) ∧ wr.ownsRow w.heap.size 47 2 o out.length (rcCells out) ∧ Below w.heap.size w wr) (fun o i _ => l.length - (intOf i).toNat)
  case atStart => exact ⟨0, [], Nat.zero_le _, Nat.zero_le _, rfl, rfl, World.ownsRow_nil _ _ _ _, Below.refl _ _⟩
  case round =>
    obtain ⟨k, out, hk, hol, rfl, hall, ho, hb⟩ := hrel
    by_cases hlt : k < l.length
    · have hd : decide ((k : Int) < (l.length : Int)) = true := by simp only [decide_eq_true_eq]; omega
      obtain ⟨g, off, rfl, m0, m1⟩ : ∃ g off, a = some ⟨g, off, none⟩ ∧ wr.cell? ⟨g, off + k * 2, none⟩ = some (.string l[k].key) ∧ wr.cell? ⟨g, off + k * 2 + 1, none⟩ = some (.string l[k].dat) := by
        rcases HH.out with ⟨_, h0⟩ | ⟨g, off, c, e, hx⟩
        · rw [h0] at hlt; simp at hlt
        · simp only [Value.slice.injEq] at e
          exact ⟨g, off, e.1, keepCell hb (hx k hlt).1, keepCell hb (hx k hlt).2.1⟩
      have hdc : l.drop k = l[k] :: l.drop (k + 1) := List.drop_eq_getElem_cons hlt
      have hkl : (k : Int) < (l.length : Int) := by omega
      have HD : Hid _ := hdc
      clear hdc
      generalize l[k] = m at *
      obtain ⟨oa, oc, rfl⟩ := own_sliceM ho
      by_cases hkk : m.key = key
      · have d1 : (m.key.toList == key.toList) = true := by rw [strEq]; exact decide_eq_true hkk
        have HK : Hid _ := hkk
        clear hkk
        go_wp2
        refine ⟨⟨k + 1, out, by omega, by omega, by norm_cast, ?_, ho, hb⟩, ?_⟩
        · have := hall.out
          rw [HD.out, List.filter_cons_of_neg (by simp [HK.out])] at this
          exact this
        · simp [intOf]; omega
      · have d1 : (m.key.toList == key.toList) = false := by rw [strEq]; exact decide_eq_false hkk
        have HK : Hid _ := hkk
        clear hkk
        have hz : w.heap.size ≤ wr.heap.size := hb.size
        go_wp2_with (at_builtin; refine wpList_append_own _ rfl _ _ 27 rfl w.heap.size 47 i0 (.agg #[.string ⟨#[]⟩, .string ⟨#[]⟩]) 2 32 Tryz.underlying27 hi hz0 hz1 hz2 rfl (by decide) _ _ _ rfl (ho.alloc _) ⟨wr.heap.size, 0, none⟩ 1 1 [.string m.key, .string m.dat] rfl rfl (two_new wr _ _ _) (two_one _ _) (by unfold maxLen; omega) (by omega) (by simp; omega) ?_)
        intro v' w' own' gr' _
        obtain ⟨oa', oc', rfl⟩ := own_sliceM own'
        have B' : Below w.heap.size w w' := below_grown (hb.alloc hz _) gr' (fun q hq => (ho.lt q hq).1) (by simp; omega)
        go_wp2
        refine ⟨⟨k + 1, out ++ [m], by omega, by simp; omega, by norm_cast, ?_, ?_, B'⟩, ?_⟩
        · have := hall.out
          rw [HD.out, List.filter_cons_of_pos (by have hk2 : ¬ m.key = key := HK.out; simp [hk2])] at this
          show _ = _
          rw [List.append_assoc]
          exact this
        · rw [rcCells_snoc, List.length_append]
          exact own'
        · simp [intOf]; omega
    · have hd : decide ((k : Int) < (l.length : Int)) = false := by simp only [decide_eq_false_iff_not]; omega
      obtain rfl : k = l.length := by omega
      obtain ⟨oa, oc, rfl⟩ := own_sliceM ho
      go_wp2
      go_ret
      have := hall.out
      rw [List.drop_length, List.filter_nil, List.append_nil] at this
      exact ⟨_, rfl, by rw [← this]; exact ho, hb⟩

theorem goP_true_len (m : Rc) : ∀ (t : List Rc), (goP m true t).length ≤ t.length
  | [] => by unfold goP; simp
  | q :: t => by
    unfold goP
    have := goP_true_len m t
    rw [if_neg (by simp), Bool.true_or]
    split <;> simp <;> omega
theorem goP_len (m : Rc) : ∀ (dn : Bool) (t : List Rc), (goP m dn t).length ≤ t.length + 1
  | dn, [] => by unfold goP; split <;> simp
  | true, q :: t => by
    unfold goP
    have := goP_true_len m t
    rw [if_neg (by simp), Bool.true_or]
    split <;> simp <;> omega
  | false, q :: t => by
    unfold goP
    cases hq : lsB q.key m.key
    · have := goP_true_len m t
      rw [if_pos (by decide), Bool.false_or, Bool.not_false]
      split <;> simp <;> omega
    · have := goP_len m false t
      rw [if_neg (by decide), Bool.false_or, Bool.not_true]
      split <;> simp <;> omega

set_option maxHeartbeats 8000000 in
set_option maxRecDepth 100000 in
theorem refPut_calls (v : Value) (l : List Rc) (key dat : ByteArray) (w : World) (h : Rcs w v l) (hl : l.length ≤ 4096) :
    Calls Tryz.prog 18 #[v, .string key, .string dat] w fun e w' => ∃ v', e = .returned v' ∧ w'.ownsRow w.heap.size 47 2 v' (goP ⟨key, dat⟩ false l).length (rcCells (goP ⟨key, dat⟩ false l)) ∧ Below w.heap.size w w' := by
  obtain ⟨i0, hi, hz0, hz1, hz2⟩ := info_parts infoRcd
  obtain ⟨a, cap, rfl⟩ := h.len
  have HH : Hid _ := h
  clear h
  go_enter Tryz.func18, Tryz.ntmps18
  go_wp2_with fail
  go_loopw [7, 8, 9] (fun o dn i wr => ∃ (k : Nat) (out : List Rc) (d : Bool), k ≤ l.length ∧ out.length ≤ k + 1 ∧ dn = .bool d ∧ i = .int .i64 k ∧ Hid (out ++ goP ⟨key, dat⟩ d (l.drop k) = goP ⟨key, dat⟩ false l ∧ (d = false → out.length ≤ k)) ∧ wr.ownsRow w.heap.size 47 2 o out.length (rcCells out) ∧ Below w.heap.size w wr) (fun o dn i _ => l.length - (intOf i).toNat)
  case atStart => exact ⟨0, [], false, Nat.zero_le _, Nat.zero_le _, rfl, rfl, ⟨rfl, fun _ => Nat.le_refl _⟩, World.ownsRow_nil _ _ _ _, Below.refl _ _⟩
  case round =>
    obtain ⟨k, out, d, hk, hol, rfl, rfl, hall, ho, hb⟩ := hrel
    by_cases hlt : k < l.length
    · have hd : decide ((k : Int) < (l.length : Int)) = true := by simp only [decide_eq_true_eq]; omega
      obtain ⟨g, off, rfl, m0, m1⟩ : ∃ g off, a = some ⟨g, off, none⟩ ∧ wr.cell? ⟨g, off + k * 2, none⟩ = some (.string l[k].key) ∧ wr.cell? ⟨g, off + k * 2 + 1, none⟩ = some (.string l[k].dat) := by
        rcases HH.out with ⟨_, h0⟩ | ⟨g, off, c, e, hx⟩
        · rw [h0] at hlt; simp at hlt
        · simp only [Value.slice.injEq] at e
          exact ⟨g, off, e.1, keepCell hb (hx k hlt).1, keepCell hb (hx k hlt).2.1⟩
      have hdc : l.drop k = l[k] :: l.drop (k + 1) := List.drop_eq_getElem_cons hlt
      have hkl : (k : Int) < (l.length : Int) := by omega
      have HD : Hid _ := hdc
      clear hdc
      have HC0 : ∀ wx, Below w.heap.size w wx → wx.cell? ⟨g, off + k * 2, none⟩ = some (.string l[k].key) ∧ wx.cell? ⟨g, off + k * 2 + 1, none⟩ = some (.string l[k].dat) := fun wx hx => by
        rcases HH.out with ⟨_, h0⟩ | ⟨g', off', c, e, hx2⟩
        · rw [h0] at hlt; simp at hlt
        · simp only [Value.slice.injEq, Option.some.injEq, Addr.mk.injEq] at e
          obtain ⟨⟨e1, e2, _⟩, _⟩ := e
          subst e1 e2
          exact ⟨keepCell hx (hx2 k hlt).1, keepCell hx (hx2 k hlt).2.1⟩
      generalize l[k] = m at *
      obtain ⟨oa, oc, rfl⟩ := own_sliceM ho
      have hle : (Op.bytesLess key.toList m.key.toList || key.toList == m.key.toList) = !lsB m.key key := lsB_flip key m.key
      have hz : w.heap.size ≤ wr.heap.size := hb.size
      have HC : Hid (∀ wx, Below w.heap.size w wx → wx.cell? ⟨g, off + k * 2, none⟩ = some (.string m.key) ∧ wx.cell? ⟨g, off + k * 2 + 1, none⟩ = some (.string m.dat)) := HC0
      cases d
      · have hall2 := hall.out.2 rfl
        cases hls : lsB m.key key
        · rw [hls] at hle
          have hol2 := hall2
          go_wp2_with (at_builtin; refine wpList_append_own _ rfl _ _ 27 rfl w.heap.size 47 i0 (.agg #[.string ⟨#[]⟩, .string ⟨#[]⟩]) 2 32 Tryz.underlying27 hi hz0 hz1 hz2 rfl (by decide) _ _ _ rfl (ho.alloc _) ⟨wr.heap.size, 0, none⟩ 1 1 [.string key, .string dat] rfl rfl (two_new wr _ _ _) (two_one _ _) (by unfold maxLen; omega) (by omega) (by simp; omega) ?_)
          intro v1 w1 own1 gr1 _
          obtain ⟨oa1, oc1, rfl⟩ := own_sliceM own1
          have B1 : Below w.heap.size w w1 := below_grown (hb.alloc (by omega) _) gr1 (fun q hq => (ho.lt q hq).1) (by simp; omega)
          have Z1 := B1.size
          have O1 : World.ownsRow w1 w.heap.size 47 2 (.slice oa1 (out.length + 1) oc1) (out ++ [(⟨key, dat⟩ : Rc)]).length (rcCells (out ++ [(⟨key, dat⟩ : Rc)])) := by rw [rcCells_snoc, List.length_append]; exact own1
          clear own1 gr1
          have L1 : (out ++ [(⟨key, dat⟩ : Rc)]).length = out.length + 1 := by simp
          have m0 : w1.cell? ⟨g, off + k * 2, none⟩ = some (.string m.key) := HC.out w1 B1 |>.1
          have m1 : w1.cell? ⟨g, off + k * 2 + 1, none⟩ = some (.string m.dat) := HC.out w1 B1 |>.2
          by_cases hkk : m.key = key
          · have d1 : (m.key.toList == key.toList) = true := by rw [strEq]; exact decide_eq_true hkk
            have HK : Hid _ := hkk
            clear hkk
            go_wp2
            refine ⟨⟨k + 1, (out ++ [(⟨key, dat⟩ : Rc)]), true, by omega, by simp; omega, rfl, by norm_cast, ?_, O1, B1⟩, ?_⟩
            · have := hall.out.1
              rw [HD.out] at this
              refine ⟨?_, fun h => (by cases h)⟩
              rw [← this]
              rw [goP_cons, show lsB m.key (Rc.mk key dat).key = false from hls, if_pos (by decide), if_pos (show m.key = (Rc.mk key dat).key from HK.out)]
              simp
            · simp [intOf]; omega
          · have d1 : (m.key.toList == key.toList) = false := by rw [strEq]; exact decide_eq_false hkk
            have HK : Hid _ := hkk
            clear hkk
            go_wp2_with (at_builtin; refine wpList_append_own _ rfl _ _ 27 rfl w.heap.size 47 i0 (.agg #[.string ⟨#[]⟩, .string ⟨#[]⟩]) 2 32 Tryz.underlying27 hi hz0 hz1 hz2 rfl (by decide) _ _ _ rfl (O1.alloc _) ⟨w1.heap.size, 0, none⟩ 1 1 [.string m.key, .string m.dat] rfl rfl (two_new w1 _ _ _) (two_one _ _) (by unfold maxLen; omega) (by omega) (by simp; omega) ?_)
            intro v2 w2 own2 gr2 _
            obtain ⟨oa2, oc2, rfl⟩ := own_sliceM own2
            have B2 : Below w.heap.size w w2 := below_grown (B1.alloc (by omega) _) gr2 (fun q hq => (O1.lt q hq).1) (by simp; omega)
            have Z2 := B2.size
            have O2 : World.ownsRow w2 w.heap.size 47 2 (.slice oa2 (out.length + 1 + 1) oc2) ((out ++ [(⟨key, dat⟩ : Rc)]) ++ [m]).length (rcCells ((out ++ [(⟨key, dat⟩ : Rc)]) ++ [m])) := by rw [rcCells_snoc, List.length_append, L1]; exact own2
            clear own2 gr2
            go_wp2
            refine ⟨⟨k + 1, ((out ++ [(⟨key, dat⟩ : Rc)]) ++ [m]), true, by omega, by simp; omega, rfl, by norm_cast, ?_, O2, B2⟩, ?_⟩
            · have := hall.out.1
              rw [HD.out] at this
              refine ⟨?_, fun h => (by cases h)⟩
              rw [← this]
              rw [goP_cons, show lsB m.key (Rc.mk key dat).key = false from hls, if_pos (by decide), if_neg (show ¬ m.key = (Rc.mk key dat).key from HK.out)]
              simp
            · simp [intOf]; omega
        · rw [hls] at hle
          by_cases hkk : m.key = key
          · have d1 : (m.key.toList == key.toList) = true := by rw [strEq]; exact decide_eq_true hkk
            have HK : Hid _ := hkk
            clear hkk
            go_wp2
            refine ⟨⟨k + 1, out, false, by omega, by omega, rfl, by norm_cast, ?_, ho, hb⟩, ?_⟩
            · have := hall.out.1
              rw [HD.out] at this
              refine ⟨?_, fun h => (by omega)⟩
              rw [← this]
              rw [goP_cons, show lsB m.key (Rc.mk key dat).key = true from hls, if_neg (by decide), if_pos (show m.key = (Rc.mk key dat).key from HK.out)]
              simp
            · simp [intOf]; omega
          · have d1 : (m.key.toList == key.toList) = false := by rw [strEq]; exact decide_eq_false hkk
            have HK : Hid _ := hkk
            clear hkk
            go_wp2_with (at_builtin; refine wpList_append_own _ rfl _ _ 27 rfl w.heap.size 47 i0 (.agg #[.string ⟨#[]⟩, .string ⟨#[]⟩]) 2 32 Tryz.underlying27 hi hz0 hz1 hz2 rfl (by decide) _ _ _ rfl (ho.alloc _) ⟨wr.heap.size, 0, none⟩ 1 1 [.string m.key, .string m.dat] rfl rfl (two_new wr _ _ _) (two_one _ _) (by unfold maxLen; omega) (by omega) (by simp; omega) ?_)
            intro v2 w2 own2 gr2 _
            obtain ⟨oa2, oc2, rfl⟩ := own_sliceM own2
            have B2 : Below w.heap.size w w2 := below_grown (hb.alloc (by omega) _) gr2 (fun q hq => (ho.lt q hq).1) (by simp; omega)
            have Z2 := B2.size
            have O2 : World.ownsRow w2 w.heap.size 47 2 (.slice oa2 (out.length + 1) oc2) (out ++ [m]).length (rcCells (out ++ [m])) := by rw [rcCells_snoc, List.length_append]; exact own2
            clear own2 gr2
            go_wp2
            refine ⟨⟨k + 1, (out ++ [m]), false, by omega, by simp; omega, rfl, by norm_cast, ?_, O2, B2⟩, ?_⟩
            · have := hall.out.1
              rw [HD.out] at this
              refine ⟨?_, fun h => (by rw [List.length_append]; simp; omega)⟩
              rw [← this]
              rw [goP_cons, show lsB m.key (Rc.mk key dat).key = true from hls, if_neg (by decide), if_neg (show ¬ m.key = (Rc.mk key dat).key from HK.out)]
              simp
            · simp [intOf]; omega
      · by_cases hkk : m.key = key
        · have d1 : (m.key.toList == key.toList) = true := by rw [strEq]; exact decide_eq_true hkk
          have HK : Hid _ := hkk
          clear hkk
          go_wp2
          refine ⟨⟨k + 1, out, true, by omega, by omega, rfl, by norm_cast, ?_, ho, hb⟩, ?_⟩
          · have := hall.out.1
            rw [HD.out] at this
            refine ⟨?_, fun h => (by cases h)⟩
            rw [← this]
            rw [goP_cons, if_neg (by simp), Bool.true_or, if_pos (show m.key = (Rc.mk key dat).key from HK.out)]
            simp
          · simp [intOf]; omega
        · have d1 : (m.key.toList == key.toList) = false := by rw [strEq]; exact decide_eq_false hkk
          have HK : Hid _ := hkk
          clear hkk
          go_wp2_with (at_builtin; refine wpList_append_own _ rfl _ _ 27 rfl w.heap.size 47 i0 (.agg #[.string ⟨#[]⟩, .string ⟨#[]⟩]) 2 32 Tryz.underlying27 hi hz0 hz1 hz2 rfl (by decide) _ _ _ rfl (ho.alloc _) ⟨wr.heap.size, 0, none⟩ 1 1 [.string m.key, .string m.dat] rfl rfl (two_new wr _ _ _) (two_one _ _) (by unfold maxLen; omega) (by omega) (by simp; omega) ?_)
          intro v2 w2 own2 gr2 _
          obtain ⟨oa2, oc2, rfl⟩ := own_sliceM own2
          have B2 : Below w.heap.size w w2 := below_grown (hb.alloc (by omega) _) gr2 (fun q hq => (ho.lt q hq).1) (by simp; omega)
          have Z2 := B2.size
          have O2 : World.ownsRow w2 w.heap.size 47 2 (.slice oa2 (out.length + 1) oc2) (out ++ [m]).length (rcCells (out ++ [m])) := by rw [rcCells_snoc, List.length_append]; exact own2
          clear own2 gr2
          go_wp2
          refine ⟨⟨k + 1, (out ++ [m]), true, by omega, by simp; omega, rfl, by norm_cast, ?_, O2, B2⟩, ?_⟩
          · have := hall.out.1
            rw [HD.out] at this
            refine ⟨?_, fun h => (by cases h)⟩
            rw [← this]
            rw [goP_cons, if_neg (by simp), Bool.true_or, if_neg (show ¬ m.key = (Rc.mk key dat).key from HK.out)]
            simp
          · simp [intOf]; omega
    · have hd : decide ((k : Int) < (l.length : Int)) = false := by simp only [decide_eq_false_iff_not]; omega
      obtain rfl : k = l.length := by omega
      obtain ⟨oa, oc, rfl⟩ := own_sliceM ho
      have hz : w.heap.size ≤ wr.heap.size := hb.size
      cases d
      · go_wp2_with (at_builtin; refine wpList_append_own _ rfl _ _ 27 rfl w.heap.size 47 i0 (.agg #[.string ⟨#[]⟩, .string ⟨#[]⟩]) 2 32 Tryz.underlying27 hi hz0 hz1 hz2 rfl (by decide) _ _ _ rfl (ho.alloc _) ⟨wr.heap.size, 0, none⟩ 1 1 [.string key, .string dat] rfl rfl (two_new wr _ _ _) (two_one _ _) (by unfold maxLen; omega) (by omega) (by simp; omega) ?_)
        intro v' w' own' gr' _
        obtain ⟨oa', oc', rfl⟩ := own_sliceM own'
        have B' : Below w.heap.size w w' := below_grown (hb.alloc hz _) gr' (fun q hq => (ho.lt q hq).1) (by simp; omega)
        go_wp2
        go_ret
        have := hall.out.1
        rw [List.drop_length] at this
        have e2 : out ++ [(⟨key, dat⟩ : Rc)] = goP ⟨key, dat⟩ false l := this
        exact ⟨_, rfl, by rw [← e2, rcCells_snoc, List.length_append]; exact own', B'⟩
      · go_wp2
        go_ret
        have := hall.out.1
        rw [List.drop_length] at this
        have e2 : out ++ [] = goP ⟨key, dat⟩ false l := this
        rw [List.append_nil] at e2
        exact ⟨_, rfl, by rw [← e2]; exact ho, hb⟩
end Go.Proofs.YtpcafjbebhcilaaGreat
