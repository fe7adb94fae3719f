/- Records in memory, and whether they are the same (for the layers above wire). -/
import Derived.Test.YtmcafgmjfgfaeaaDoorLr04
import Derived.Laws.StructEq
namespace Go.Proofs.YtmcafgmjfgfaeaaDoor
open Go.RowKit
set_option linter.unusedVariables false
set_option linter.unusedSimpArgs false

structure Rc where
  key : ByteArray
  dat : ByteArray
def Rc.val (m : Rc) : Value := .agg #[.string m.key, .string m.dat]
def rcCells (l : List Rc) : List Value := l.flatMap fun m => [.string m.key, .string m.dat]
theorem rcCells_snoc (l : List Rc) (m : Rc) : rcCells (l ++ [m]) = rcCells l ++ [.string m.key, .string m.dat] := by
  unfold rcCells; rw [List.flatMap_append]; rfl
/-- A slice of records: its cells. -/
def Rcs (w : World) (v : Value) (l : List Rc) : Prop :=
  ((∃ p c, v = .slice p 0 c) ∧ l = []) ∨
  ∃ b off cap, v = .slice (some ⟨b, off, none⟩) l.length cap ∧ ∀ i (h : i < l.length),
    w.cell? ⟨b, off + i * 2, none⟩ = some (.string l[i].key) ∧ w.cell? ⟨b, off + i * 2 + 1, none⟩ = some (.string l[i].dat) ∧ l[i].key.size ≤ maxLen ∧ l[i].dat.size ≤ maxLen

theorem Rcs.below {w w' : World} {v : Value} {l : List Rc} (h : Rcs w v l) (hb : Below w.heap.size w w') : Rcs w' v l := by
  rcases h with h | ⟨b, off, cap, hv, hc⟩
  · exact Or.inl h
  · refine Or.inr ⟨b, off, cap, hv, fun i hi => ?_⟩
    obtain ⟨h1, h2, h4⟩ := hc i hi
    have hlt := World.block_lt_of_cell? w _ h1
    exact ⟨(hb.cell (p := ⟨b, off + i * 2, none⟩) hlt).trans h1, (hb.cell (p := ⟨b, off + i * 2 + 1, none⟩) hlt).trans h2, h4⟩

theorem Rcs.len {w : World} {v : Value} {l : List Rc} (h : Rcs w v l) : ∃ p c, v = .slice p l.length c := by
  rcases h with ⟨⟨p, c, rfl⟩, rfl⟩ | ⟨b, off, cap, rfl, _⟩
  · exact ⟨p, c, rfl⟩
  · exact ⟨_, _, rfl⟩

theorem rcCells_at : ∀ (l : List Rc) (i : Nat) (h : i < l.length), (rcCells l)[i * 2]? = some (.string l[i].key) ∧ (rcCells l)[i * 2 + 1]? = some (.string l[i].dat) := by
  intro l
  induction l with
  | nil => intro i h; simp at h
  | cons m l ih =>
    intro i h
    have e : rcCells (m :: l) = .string m.key :: .string m.dat :: rcCells l := by simp [rcCells]
    rw [e]
    cases i with
    | zero => exact ⟨rfl, rfl⟩
    | succ i =>
      have h' : i < l.length := by simpa using h
      have e1 : (i + 1) * 2 = i * 2 + 2 := by omega
      rw [e1]
      simpa using ih i h'

theorem rcs_of_own {w : World} {base : Nat} {v : Value} {l : List Rc} (h : w.ownsRow base 71 2 v l.length (rcCells l)) (hl : ∀ m ∈ l, m.key.size ≤ maxLen ∧ m.dat.size ≤ maxLen) : Rcs w v l := by
  obtain ⟨h1, h2⟩ := id h
  rcases h2 with ⟨rfl, h3⟩ | ⟨g, cap, cur, rfl, h3⟩
  · exact Or.inl ⟨⟨_, _, rfl⟩, List.eq_nil_of_length_eq_zero h3⟩
  · refine Or.inr ⟨g, 0, cap, rfl, fun i hi => ?_⟩
    obtain ⟨c0, c1⟩ := rcCells_at l i hi
    have d0 := h.cells rfl _ _ c0
    have d1 := h.cells rfl _ _ c1
    obtain ⟨z1, z2⟩ := hl l[i] (List.getElem_mem hi)
    rw [Addr.add_lit] at d0 d1
    exact ⟨d0, d1, z1, z2⟩

def rcEq (m n : Rc) : Bool := m.key.toList == n.key.toList && m.dat.toList == n.dat.toList
def sameRc : List Rc → List Rc → Bool
  | [], [] => true
  | m :: l, n :: r => rcEq m n && sameRc l r
  | _, _ => false

theorem rcEq_self (m : Rc) : rcEq m m = true := by simp [rcEq]
theorem sameRc_self : ∀ l, sameRc l l = true
  | [] => rfl
  | m :: l => by simp [sameRc, rcEq_self, sameRc_self l]
theorem sameRc_len : ∀ {l r : List Rc}, l.length ≠ r.length → sameRc l r = false
  | [], [], h => absurd rfl h
  | [], _ :: _, _ => rfl
  | _ :: _, [], _ => rfl
  | m :: l, n :: r, h => by
    have h' : l.length ≠ r.length := fun e => h (by simp [e])
    simp [sameRc, sameRc_len h']

theorem cellsStrS : Tryd.prog.cellsOf 9 = 1 := by kernel_rfl

theorem run_neq_record (m n : Rc) (w : World) : (binOp .neq 71 m.val n.val).run Tryd.prog w = .ok (.bool (!rcEq m n)) w := by
  unfold Rc.val
  rw [run_neq_struct, run_equalIn_agg]
  · simp [Op.eqFields, go_sem, Program.fieldsOf, Tryd.underlying71, part, cellsStrS, rcEq]
    by_cases h2 : m.key.toList = n.key.toList <;> by_cases h3 : m.dat.toList = n.dat.toList <;> simp [h2, h3]
  · kernel_rfl
  · kernel_rfl

theorem sameRecords_ref (v u : Value) (l r : List Rc) (w : World) (h : Rcs w v l) (h' : Rcs w u r) (hl : l.length < 9223372036854775807) (hr : r.length < 9223372036854775807) :
    Calls Tryd.prog 10 #[v, u] w fun e w' => e = .returned (.bool (sameRc l r)) ∧ Below w.heap.size w w' := by
  obtain ⟨p, c, rfl⟩ := h.len
  obtain ⟨p', c', rfl⟩ := h'.len
  by_cases hlen : l.length = r.length
  · have hne : ((l.length : Int) != r.length) = false := by simp [hlen]
    rcases h with ⟨_, rfl⟩ | ⟨b, off, cap, hv, hc⟩
    · have : r = [] := List.eq_nil_of_length_eq_zero hlen.symm
      subst this
      go_enter Tryd.func10, Tryd.ntmps10
      go_wp2
      refine wp_loop_rounds 1 ?_
      rw [rounds_succ]
      go_wp2
      go_ret
      exact ⟨rfl, Below.refl _ _⟩
    · simp only [Value.slice.injEq] at hv
      obtain ⟨rfl, _, rfl⟩ := hv
      rcases h' with ⟨_, rfl⟩ | ⟨b', off', cap', hv', hc'⟩
      · have : l = [] := List.eq_nil_of_length_eq_zero hlen
        subst this
        go_enter Tryd.func10, Tryd.ntmps10
        go_wp2
        refine wp_loop_rounds 1 ?_
        rw [rounds_succ]
        go_wp2
        go_ret
        exact ⟨rfl, Below.refl _ _⟩
      · simp only [Value.slice.injEq] at hv'
        obtain ⟨rfl, _, rfl⟩ := hv'
        have HC : Hid _ := hc
        have HC' : Hid _ := hc'
        have HL : Hid (l.length = r.length) := hlen
        clear hc hc' hlen
        go_enter Tryd.func10, Tryd.ntmps10
        go_wp2
        go_loopw [5] (fun i wr => ∃ k : Nat, k ≤ l.length ∧ i = .int .i64 k ∧ Hid (sameRc l r = sameRc (l.drop k) (r.drop k)) ∧ Below w.heap.size w wr) (fun i _ => l.length - (intOf i).toNat)
        case atStart => exact ⟨0, Nat.zero_le _, rfl, rfl, Below.refl _ _⟩
        case round =>
          obtain ⟨k, hk, rfl, hR, hb⟩ := hrel
          by_cases hlt : k < l.length
          · have hlt' : k < r.length := by rw [← HL.out]; exact hlt
            have hd : decide ((k : Int) < l.length) = true := by simp only [decide_eq_true_eq]; omega
            obtain ⟨c1, c2, z1, z2⟩ := HC.out k hlt
            have hbl := World.block_lt_of_cell? w _ c1
            have d1 := (hb.cell (p := ⟨b, off + k * 2, none⟩) hbl).trans c1
            have d2 := (hb.cell (p := ⟨b, off + k * 2 + 1, none⟩) hbl).trans c2
            obtain ⟨g1, g2, y1, y2⟩ := HC'.out k hlt'
            have hbl' := World.block_lt_of_cell? w _ g1
            have e1 := (hb.cell (p := ⟨b', off' + k * 2, none⟩) hbl').trans g1
            have e2 := (hb.cell (p := ⟨b', off' + k * 2 + 1, none⟩) hbl').trans g2
            have hdr : l.drop k = l[k] :: l.drop (k + 1) := List.drop_eq_getElem_cons hlt
            have hdr' : r.drop k = r[k] :: r.drop (k + 1) := List.drop_eq_getElem_cons hlt'
            have hst : Hid (sameRc l r = (rcEq l[k] r[k] && sameRc (l.drop (k + 1)) (r.drop (k + 1)))) := by
              show _ = _
              rw [hR.out, hdr, hdr']; rfl
            have hne2 := fun wx => run_neq_record l[k] r[k] wx
            unfold Rc.val at hne2
            clear c1 c2 g1 g2 hdr hdr' hR
            cases hq : rcEq l[k] r[k] with
            | true =>
              have hst2 : Hid (sameRc l r = sameRc (l.drop (k + 1)) (r.drop (k + 1))) := by show _ = _; rw [hst.out, hq]; simp
              rw [hq] at hne2
              clear hq hst
              go_wp2
              go_region
              go_wp2
              go_roundw
              case rel => exact ⟨k + 1, by omega, by go_num, hst2, hb.drew⟩
              case measure => simp [intOf]; omega
            | false =>
              have hst2 : Hid (sameRc l r = false) := by show _ = _; rw [hst.out, hq]; simp
              rw [hq] at hne2
              clear hq hst
              go_wp2
              go_region
              go_wp2
              go_ret
              exact ⟨by rw [hst2.out]; rfl, hb.drew⟩
          · have hd : decide ((k : Int) < l.length) = false := by simp only [decide_eq_false_iff_not]; omega
            have hfin : Hid (sameRc l r = true) := by
              show _ = _
              rw [hR.out, List.drop_of_length_le (by omega), List.drop_of_length_le (by rw [← HL.out]; omega)]; rfl
            go_wp2
            go_ret
            exact ⟨by rw [hfin.out]; rfl, hb⟩
  · have hne : ((l.length : Int) != r.length) = true := by
      rw [bne_iff_ne]; omega
    have hfin : Hid (sameRc l r = false) := sameRc_len hlen
    clear hlen
    go_enter Tryd.func10, Tryd.ntmps10
    go_wp2
    go_ret
    exact ⟨by rw [hfin.out]; rfl, Below.refl _ _⟩
end Go.Proofs.YtmcafgmjfgfaeaaDoor
