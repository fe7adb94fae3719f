/- Which records may be: the document's answer. -/
import Derived.Test.YtpcafjbebhcilaaGreatTm14
import Derived.Laws.StructEq
import Derived.Test.YtpcafjbebhcilaaGreatTm34
namespace Go.Proofs.YtpcafjbebhcilaaGreat
open Go.RowKit
set_option linter.unusedVariables false
set_option linter.unusedSimpArgs false

theorem lsB_nil (a : ByteArray) (h : a.size ≠ 0) : lsB ⟨#[]⟩ a = true := by
  unfold lsB
  have e : (⟨#[]⟩ : ByteArray).toList = [] := by rw [ByteArray.toList_eq]
  have h' : a.size = a.data.toList.length := by rw [Array.length_toList]; rfl
  rw [e, ByteArray.toList_eq]
  cases hh : a.data.toList with
  | nil => rw [hh] at h'; exact absurd h' h
  | cons x y => rfl

end Go.Proofs.YtpcafjbebhcilaaGreat

namespace Go.Proofs.YtpcafjbebhcilaaGreat
open Go.RowKit
set_option linter.unusedVariables false
set_option linter.unusedSimpArgs false

def rcEq (m n : Rc) : Bool := m.key.toList == n.key.toList && m.dat.toList == n.dat.toList
def sameRc : List Rc → List Rc → Bool
  | [], [] => true
  | m :: l, n :: r => rcEq m n && sameRc l r
  | _, _ => false

theorem rcEq_self (m : Rc) : rcEq m m = true := by simp [rcEq]
theorem sameRc_self : ∀ l, sameRc l l = true
  | [] => rfl
  | m :: l => by simp [sameRc, rcEq_self, sameRc_self l]
theorem sameRc_len : ∀ {l r : List Rc}, l.length ≠ r.length → sameRc l r = false
  | [], [], h => absurd rfl h
  | [], _ :: _, _ => rfl
  | _ :: _, [], _ => rfl
  | m :: l, n :: r, h => by
    have h' : l.length ≠ r.length := fun e => h (by simp [e])
    simp [sameRc, sameRc_len h']

theorem cellsStrS : Tryz.prog.cellsOf 9 = 1 := by kernel_rfl

theorem run_neq_record (m n : Rc) (w : World) : (binOp .neq 47 m.val n.val).run Tryz.prog w = .ok (.bool (!rcEq m n)) w := by
  unfold Rc.val
  rw [run_neq_struct, run_equalIn_agg]
  · simp [Op.eqFields, go_sem, Program.fieldsOf, Tryz.underlying47, part, cellsStrS, rcEq]
    by_cases h2 : m.key.toList = n.key.toList <;> by_cases h3 : m.dat.toList = n.dat.toList <;> simp [h2, h3]
  · kernel_rfl
  · kernel_rfl

theorem sameRecords_ref (v u : Value) (l r : List Rc) (w : World) (h : Rcs w v l) (h' : Rcs w u r) (hl : l.length < 9223372036854775807) (hr : r.length < 9223372036854775807) :
    Calls Tryz.prog 17 #[v, u] w fun e w' => e = .returned (.bool (sameRc l r)) ∧ Below w.heap.size w w' := by
  obtain ⟨p, c, rfl⟩ := h.len
  obtain ⟨p', c', rfl⟩ := h'.len
  by_cases hlen : l.length = r.length
  · have hne : ((l.length : Int) != r.length) = false := by simp [hlen]
    rcases h with ⟨_, rfl⟩ | ⟨b, off, cap, hv, hc⟩
    · have : r = [] := List.eq_nil_of_length_eq_zero hlen.symm
      subst this
      go_enter Tryz.func17, Tryz.ntmps17
      go_wp2
      refine wp_loop_rounds 1 ?_
      rw [rounds_succ]
      go_wp2
      go_ret
      exact ⟨rfl, Below.refl _ _⟩
    · simp only [Value.slice.injEq] at hv
      obtain ⟨rfl, _, rfl⟩ := hv
      rcases h' with ⟨_, rfl⟩ | ⟨b', off', cap', hv', hc'⟩
      · have : l = [] := List.eq_nil_of_length_eq_zero hlen
        subst this
        go_enter Tryz.func17, Tryz.ntmps17
        go_wp2
        refine wp_loop_rounds 1 ?_
        rw [rounds_succ]
        go_wp2
        go_ret
        exact ⟨rfl, Below.refl _ _⟩
      · simp only [Value.slice.injEq] at hv'
        obtain ⟨rfl, _, rfl⟩ := hv'
        have HC : Hid _ := hc
        have HC' : Hid _ := hc'
        have HL : Hid (l.length = r.length) := hlen
        clear hc hc' hlen
        go_enter Tryz.func17, Tryz.ntmps17
        go_wp2
        go_loopw [5] (fun i wr => ∃ k : Nat, k ≤ l.length ∧ i = .int .i64 k ∧ Hid (sameRc l r = sameRc (l.drop k) (r.drop k)) ∧ Below w.heap.size w wr) (fun i _ => l.length - (intOf i).toNat)
        case atStart => exact ⟨0, Nat.zero_le _, rfl, rfl, Below.refl _ _⟩
        case round =>
          obtain ⟨k, hk, rfl, hR, hb⟩ := hrel
          by_cases hlt : k < l.length
          · have hlt' : k < r.length := by rw [← HL.out]; exact hlt
            have hd : decide ((k : Int) < l.length) = true := by simp only [decide_eq_true_eq]; omega
            obtain ⟨c1, c2, z1, z2⟩ := HC.out k hlt
            have hbl := World.block_lt_of_cell? w _ c1
            have d1 := (hb.cell (p := ⟨b, off + k * 2, none⟩) hbl).trans c1
            have d2 := (hb.cell (p := ⟨b, off + k * 2 + 1, none⟩) hbl).trans c2
            obtain ⟨g1, g2, y1, y2⟩ := HC'.out k hlt'
            have hbl' := World.block_lt_of_cell? w _ g1
            have e1 := (hb.cell (p := ⟨b', off' + k * 2, none⟩) hbl').trans g1
            have e2 := (hb.cell (p := ⟨b', off' + k * 2 + 1, none⟩) hbl').trans g2
            have hdr : l.drop k = l[k] :: l.drop (k + 1) := List.drop_eq_getElem_cons hlt
            have hdr' : r.drop k = r[k] :: r.drop (k + 1) := List.drop_eq_getElem_cons hlt'
            have hst : Hid (sameRc l r = (rcEq l[k] r[k] && sameRc (l.drop (k + 1)) (r.drop (k + 1)))) := by
              show _ = _
              rw [hR.out, hdr, hdr']; rfl
            have hne2 := fun wx => run_neq_record l[k] r[k] wx
            unfold Rc.val at hne2
            clear c1 c2 g1 g2 hdr hdr' hR
            cases hq : rcEq l[k] r[k] with
            | true =>
              have hst2 : Hid (sameRc l r = sameRc (l.drop (k + 1)) (r.drop (k + 1))) := by show _ = _; rw [hst.out, hq]; simp
              rw [hq] at hne2
              clear hq hst
              go_wp2
              go_region
              go_wp2
              go_roundw
              case rel => exact ⟨k + 1, by omega, by go_num, hst2, hb.drew⟩
              case measure => simp [intOf]; omega
            | false =>
              have hst2 : Hid (sameRc l r = false) := by show _ = _; rw [hst.out, hq]; simp
              rw [hq] at hne2
              clear hq hst
              go_wp2
              go_region
              go_wp2
              go_ret
              exact ⟨by rw [hst2.out]; rfl, hb.drew⟩
          · have hd : decide ((k : Int) < l.length) = false := by simp only [decide_eq_false_iff_not]; omega
            have hfin : Hid (sameRc l r = true) := by
              show _ = _
              rw [hR.out, List.drop_of_length_le (by omega), List.drop_of_length_le (by rw [← HL.out]; omega)]; rfl
            go_wp2
            go_ret
            exact ⟨by rw [hfin.out]; rfl, hb⟩
  · have hne : ((l.length : Int) != r.length) = true := by
      rw [bne_iff_ne]; omega
    have hfin : Hid (sameRc l r = false) := sameRc_len hlen
    clear hlen
    go_enter Tryz.func17, Tryz.ntmps17
    go_wp2
    go_ret
    exact ⟨by rw [hfin.out]; rfl, Below.refl _ _⟩
end Go.Proofs.YtpcafjbebhcilaaGreat

namespace Go.Proofs.YtpcafjbebhcilaaGreat
open Go.RowKit
set_option linter.unusedSimpArgs false
set_option linter.unusedVariables false
variable {p b x y : Nat} {T : List ByteArray} {S : List (Int × ByteArray)}

/-- Records in a slice that can be cut. -/
def RcsC (w : World) (v : Value) (l : List Rc) : Prop := Rcs w v l ∧ ∃ a cap, v = .slice a l.length cap ∧ l.length ≤ cap ∧ cap ≤ 9223372036854775807
theorem RcsC.below {w w' : World} {v : Value} {l : List Rc} (h : RcsC w v l) (hb : Below w.heap.size w w') : RcsC w' v l := ⟨h.1.below hb, h.2⟩
theorem RcsC.len {w : World} {v : Value} {l : List Rc} (h : RcsC w v l) : l.length ≤ 9223372036854775807 := by
  obtain ⟨_, _, _, _, h1, h2⟩ := h
  omega
theorem sameRc_eq : ∀ {l m : List Rc}, sameRc l m = true → l = m
  | [], [], _ => rfl
  | [], _ :: _, h => by cases h
  | _ :: _, [], h => by cases h
  | a :: l, c :: m, h => by
    simp only [sameRc, rcEq, Bool.and_eq_true] at h
    rw [strEq, strEq, decide_eq_true_eq, decide_eq_true_eq] at h
    obtain ⟨⟨h1, h2⟩, h3⟩ := h
    rw [sameRc_eq h3]
    cases a; cases c
    simp only at h1 h2
    rw [h1, h2]
end Go.Proofs.YtpcafjbebhcilaaGreat
