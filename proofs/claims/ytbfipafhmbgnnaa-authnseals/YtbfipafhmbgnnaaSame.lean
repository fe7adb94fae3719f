/- Are messages, and bodies, the same? -/
import Derived.Test.YtbfipafhmbgnnaaRefF
import Derived.Laws.StructEq
namespace Go.Proofs.Ytbfipafhmbgnnaa
open Go.RowKit
set_option linter.unusedVariables false
set_option linter.unusedSimpArgs false

def sgEq (m n : Sg) : Bool := m.frm == n.frm && (m.body.toList == n.body.toList && m.sig.toList == n.sig.toList)
def sameL : List Sg → List Sg → Bool
  | [], [] => true
  | m :: l, n :: r => sgEq m n && sameL l r
  | _, _ => false

theorem toList_inj {a b : ByteArray} : (a.toList == b.toList) = true ↔ a = b := by
  rw [beq_iff_eq, ByteArray.toList_eq, ByteArray.toList_eq]
  constructor
  · intro h
    apply ByteArray.ext
    exact Array.toList_inj.1 h
  · rintro rfl; rfl

theorem sgEq_iff (m n : Sg) : sgEq m n = true ↔ m = n := by
  obtain ⟨f, b, g⟩ := m
  obtain ⟨f', b', g'⟩ := n
  unfold sgEq
  rw [Bool.and_eq_true, Bool.and_eq_true, toList_inj, toList_inj, beq_iff_eq, Sg.mk.injEq]

theorem sameL_iff : ∀ (l r : List Sg), sameL l r = true ↔ l = r := by
  intro l
  induction l with
  | nil => intro r; cases r <;> simp [sameL]
  | cons m l ih =>
    intro r
    cases r with
    | nil => simp [sameL]
    | cons n r => simp only [sameL, Bool.and_eq_true, sgEq_iff, ih, List.cons.injEq]

theorem sameL_len {l r : List Sg} (h : l.length ≠ r.length) : sameL l r = false := by
  cases e : sameL l r with
  | false => rfl
  | true => rw [(sameL_iff l r).1 e] at h; exact absurd rfl h

theorem cellsIntS : Try.prog.cellsOf 3 = 1 := by kernel_rfl
theorem cellsStrS : Try.prog.cellsOf 9 = 1 := by kernel_rfl

theorem run_neq_signed (m n : Sg) (w : World) : (binOp .neq 28 m.val n.val).run Try.prog w = .ok (.bool (!sgEq m n)) w := by
  unfold Sg.val
  rw [run_neq_struct, run_equalIn_agg]
  · simp [Op.eqFields, go_sem, Program.fieldsOf, Try.underlying28, part, cellsIntS, sgEq]
    by_cases h1 : m.frm = n.frm <;> by_cases h2 : m.body.toList = n.body.toList <;> by_cases h3 : m.sig.toList = n.sig.toList <;> simp [h1, h2, h3]
  · kernel_rfl
  · kernel_rfl

theorem sameAll_ref (v u : Value) (l r : List Sg) (w : World) (h : Sgs w v l) (h' : Sgs w u r) (hl : l.length < 9223372036854775807) (hr : r.length < 9223372036854775807) :
    Calls Try.prog 26 #[v, u] w fun e w' => e = .returned (.bool (sameL l r)) ∧ Below w.heap.size w w' := by
  obtain ⟨p, c, rfl⟩ := h.len
  obtain ⟨p', c', rfl⟩ := h'.len
  by_cases hlen : l.length = r.length
  · have hne : ((l.length : Int) != r.length) = false := by simp [hlen]
    rcases h with ⟨_, rfl⟩ | ⟨b, off, cap, hv, hc⟩
    · have : r = [] := List.eq_nil_of_length_eq_zero hlen.symm
      subst this
      go_enter Try.func26, Try.ntmps26
      go_wp2
      refine wp_loop_rounds 1 ?_
      rw [rounds_succ]
      go_wp2
      go_ret
      exact ⟨rfl, Below.refl _ _⟩
    · simp only [Value.slice.injEq] at hv
      obtain ⟨rfl, _, rfl⟩ := hv
      rcases h' with ⟨_, rfl⟩ | ⟨b', off', cap', hv', hc'⟩
      · have : l = [] := List.eq_nil_of_length_eq_zero hlen
        subst this
        go_enter Try.func26, Try.ntmps26
        go_wp2
        refine wp_loop_rounds 1 ?_
        rw [rounds_succ]
        go_wp2
        go_ret
        exact ⟨rfl, Below.refl _ _⟩
      · simp only [Value.slice.injEq] at hv'
        obtain ⟨rfl, _, rfl⟩ := hv'
        have HC : Hid _ := hc
        have HC' : Hid _ := hc'
        have HL : Hid (l.length = r.length) := hlen
        clear hc hc' hlen
        go_enter Try.func26, Try.ntmps26
        go_wp2
        go_loopw [5] (fun i wr => ∃ k : Nat, k ≤ l.length ∧ i = .int .i64 k ∧ Hid (sameL l r = sameL (l.drop k) (r.drop k)) ∧ Below w.heap.size w wr) (fun i _ => l.length - (intOf i).toNat)
        case atStart => exact ⟨0, Nat.zero_le _, rfl, rfl, Below.refl _ _⟩
        case round =>
          obtain ⟨k, hk, rfl, hR, hb⟩ := hrel
          by_cases hlt : k < l.length
          · have hlt' : k < r.length := by rw [← HL.out]; exact hlt
            have hd : decide ((k : Int) < l.length) = true := by simp only [decide_eq_true_eq]; omega
            obtain ⟨c1, c2, c3, z1, z2⟩ := HC.out k hlt
            have hbl := World.block_lt_of_cell? w _ c1
            have d1 := (hb.cell (p := ⟨b, off + k * 3, none⟩) hbl).trans c1
            have d2 := (hb.cell (p := ⟨b, off + k * 3 + 1, none⟩) hbl).trans c2
            have d3 := (hb.cell (p := ⟨b, off + k * 3 + 2, none⟩) hbl).trans c3
            obtain ⟨g1, g2, g3, y1, y2⟩ := HC'.out k hlt'
            have hbl' := World.block_lt_of_cell? w _ g1
            have e1 := (hb.cell (p := ⟨b', off' + k * 3, none⟩) hbl').trans g1
            have e2 := (hb.cell (p := ⟨b', off' + k * 3 + 1, none⟩) hbl').trans g2
            have e3 := (hb.cell (p := ⟨b', off' + k * 3 + 2, none⟩) hbl').trans g3
            have hdr : l.drop k = l[k] :: l.drop (k + 1) := List.drop_eq_getElem_cons hlt
            have hdr' : r.drop k = r[k] :: r.drop (k + 1) := List.drop_eq_getElem_cons hlt'
            have hst : Hid (sameL l r = (sgEq l[k] r[k] && sameL (l.drop (k + 1)) (r.drop (k + 1)))) := by
              show _ = _
              rw [hR.out, hdr, hdr']; rfl
            have hne2 := fun wx => run_neq_signed l[k] r[k] wx
            unfold Sg.val at hne2
            clear c1 c2 c3 g1 g2 g3 hdr hdr' hR
            cases hq : sgEq l[k] r[k] with
            | true =>
              have hst2 : Hid (sameL l r = sameL (l.drop (k + 1)) (r.drop (k + 1))) := by show _ = _; rw [hst.out, hq]; simp
              rw [hq] at hne2
              clear hq hst
              go_wp2
              go_region
              go_wp2
              go_roundw
              case rel => exact ⟨k + 1, by omega, by go_num, hst2, hb.drew⟩
              case measure => simp [intOf]; omega
            | false =>
              have hst2 : Hid (sameL l r = false) := by show _ = _; rw [hst.out, hq]; simp
              rw [hq] at hne2
              clear hq hst
              go_wp2
              go_region
              go_wp2
              go_ret
              exact ⟨by rw [hst2.out]; rfl, hb.drew⟩
          · have hd : decide ((k : Int) < l.length) = false := by simp only [decide_eq_false_iff_not]; omega
            have hfin : Hid (sameL l r = true) := by
              show _ = _
              rw [hR.out, List.drop_of_length_le (by omega), List.drop_of_length_le (by rw [← HL.out]; omega)]; rfl
            go_wp2
            go_ret
            exact ⟨by rw [hfin.out]; rfl, hb⟩
  · have hne : ((l.length : Int) != r.length) = true := by
      rw [bne_iff_ne]; omega
    have hfin : Hid (sameL l r = false) := sameL_len hlen
    clear hlen
    go_enter Try.func26, Try.ntmps26
    go_wp2
    go_ret
    exact ⟨by rw [hfin.out]; rfl, Below.refl _ _⟩

def sameB (a b : Bd) : Bool := a.kind == b.kind && (a.view == b.view && (a.seq == b.seq && (a.client == b.client && (a.stamp == b.stamp && (a.digest.toList == b.digest.toList && (a.text.toList == b.text.toList && sameL a.list b.list))))))

theorem sameB_iff (a b : Bd) : sameB a b = true ↔ a = b := by
  obtain ⟨k, v, q, c, t, d, x, l⟩ := a
  obtain ⟨k', v', q', c', t', d', x', l'⟩ := b
  unfold sameB
  simp only [Bool.and_eq_true, sameL_iff, Bd.mk.injEq]
  rw [toList_inj, toList_inj]
  simp only [beq_iff_eq]

set_option maxHeartbeats 4000000 in
theorem same_ref (a b : Bd) (va vb : Value) (w : World) (hla : Sgs w va a.list) (hlb : Sgs w vb b.list) (h1 : a.list.length < 9223372036854775807) (h2 : b.list.length < 9223372036854775807) :
    Calls Try.prog 10 #[a.val va, b.val vb] w fun e w' => e = .returned (.bool (sameB a b)) ∧ Below w.heap.size w w' := by
  have hsa := fun wx (hb : Below w.heap.size w wx) => sameAll_ref va vb a.list b.list wx (hla.below hb) (hlb.below hb) h1 h2
  have HS : Hid _ := hsa
  obtain ⟨p, c, rfl⟩ := hla.len
  obtain ⟨p', c', rfl⟩ := hlb.len
  clear hsa hla hlb
  unfold sameB
  unfold Bd.val
  cases g0 : (a.kind == b.kind) with
  | false =>
    go_enter Try.func10, Try.ntmps10
    go_wp2
    go_ret
    exact ⟨rfl, by go_grown⟩
  | true =>
  cases g1 : (a.view == b.view) with
  | false =>
    go_enter Try.func10, Try.ntmps10
    go_wp2
    go_ret
    exact ⟨rfl, by go_grown⟩
  | true =>
  cases g2 : (a.seq == b.seq) with
  | false =>
    go_enter Try.func10, Try.ntmps10
    go_wp2
    go_ret
    exact ⟨rfl, by go_grown⟩
  | true =>
  cases g3 : (a.client == b.client) with
  | false =>
    go_enter Try.func10, Try.ntmps10
    go_wp2
    go_ret
    exact ⟨rfl, by go_grown⟩
  | true =>
  cases g4 : (a.stamp == b.stamp) with
  | false =>
    go_enter Try.func10, Try.ntmps10
    go_wp2
    go_ret
    exact ⟨rfl, by go_grown⟩
  | true =>
  cases g5 : (a.digest.toList == b.digest.toList) with
  | false =>
    go_enter Try.func10, Try.ntmps10
    go_wp2
    go_ret
    exact ⟨rfl, by go_grown⟩
  | true =>
  cases g6 : (a.text.toList == b.text.toList) with
  | false =>
    go_enter Try.func10, Try.ntmps10
    go_wp2
    go_ret
    exact ⟨rfl, by go_grown⟩
  | true =>
  go_enter Try.func10, Try.ntmps10
  go_wp2_with fail
  refine (HS.out _ (by go_grown)).mono ?_
  rintro e w1 ⟨rfl, b1⟩
  go_wp2
  go_ret
  exact ⟨rfl, (show Below w.heap.size w _ by go_grown).trans (b1.mono (by simp; omega))⟩
end Go.Proofs.Ytbfipafhmbgnnaa
