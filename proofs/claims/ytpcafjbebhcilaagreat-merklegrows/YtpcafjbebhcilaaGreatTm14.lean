/- Which records may be: the program's and the document's answer. -/
import Derived.Test.YtpcafjbebhcilaaGreatTm13
import Derived.Test.YtpcafjbebhcilaaGreatTm05
import Derived.Laws.Cover1
namespace Go.Proofs.YtpcafjbebhcilaaGreat
open Go.RowKit
set_option linter.unusedVariables false
set_option linter.unusedSimpArgs false

/-- A slice of records: its cells. -/
def Rcs (w : World) (v : Value) (l : List Rc) : Prop :=
  ((∃ p c, v = .slice p 0 c) ∧ l = []) ∨
  ∃ b off cap, v = .slice (some ⟨b, off, none⟩) l.length cap ∧ ∀ i (h : i < l.length),
    w.cell? ⟨b, off + i * 2, none⟩ = some (.string l[i].key) ∧ w.cell? ⟨b, off + i * 2 + 1, none⟩ = some (.string l[i].dat) ∧ l[i].key.size ≤ maxLen ∧ l[i].dat.size ≤ maxLen

theorem Rcs.below {w w' : World} {v : Value} {l : List Rc} (h : Rcs w v l) (hb : Below w.heap.size w w') : Rcs w' v l := by
  rcases h with h | ⟨b, off, cap, hv, hc⟩
  · exact Or.inl h
  · refine Or.inr ⟨b, off, cap, hv, fun i hi => ?_⟩
    obtain ⟨h1, h2, h4⟩ := hc i hi
    have hlt := World.block_lt_of_cell? w _ h1
    exact ⟨(hb.cell (p := ⟨b, off + i * 2, none⟩) hlt).trans h1, (hb.cell (p := ⟨b, off + i * 2 + 1, none⟩) hlt).trans h2, h4⟩

theorem Rcs.len {w : World} {v : Value} {l : List Rc} (h : Rcs w v l) : ∃ p c, v = .slice p l.length c := by
  rcases h with ⟨⟨p, c, rfl⟩, rfl⟩ | ⟨b, off, cap, rfl, _⟩
  · exact ⟨p, c, rfl⟩
  · exact ⟨_, _, rfl⟩

theorem rcCells_len (l : List Rc) : (rcCells l).length = l.length * 2 := by
  induction l with
  | nil => rfl
  | cons m l ih => simp only [rcCells, List.flatMap_cons, List.length_append, List.length_cons, List.length_nil] at ih ⊢; omega

theorem rcCells_at : ∀ (l : List Rc) (i : Nat) (h : i < l.length), (rcCells l)[i * 2]? = some (.string l[i].key) ∧ (rcCells l)[i * 2 + 1]? = some (.string l[i].dat) := by
  intro l
  induction l with
  | nil => intro i h; simp at h
  | cons m l ih =>
    intro i h
    have e : rcCells (m :: l) = .string m.key :: .string m.dat :: rcCells l := by simp [rcCells]
    rw [e]
    cases i with
    | zero => exact ⟨rfl, rfl⟩
    | succ i =>
      have h' : i < l.length := by simpa using h
      have e1 : (i + 1) * 2 = i * 2 + 2 := by omega
      rw [e1]
      simpa using ih i h'

theorem rcs_of_own {w : World} {base : Nat} {v : Value} {l : List Rc} (h : w.ownsRow base 47 2 v l.length (rcCells l)) (hl : ∀ m ∈ l, m.key.size ≤ maxLen ∧ m.dat.size ≤ maxLen) : Rcs w v l := by
  obtain ⟨h1, h2⟩ := id h
  rcases h2 with ⟨rfl, h3⟩ | ⟨g, cap, cur, rfl, h3⟩
  · exact Or.inl ⟨⟨_, _, rfl⟩, List.eq_nil_of_length_eq_zero h3⟩
  · refine Or.inr ⟨g, 0, cap, rfl, fun i hi => ?_⟩
    obtain ⟨c0, c1⟩ := rcCells_at l i hi
    have d0 := h.cells rfl _ _ c0
    have d1 := h.cells rfl _ _ c1
    obtain ⟨z1, z2⟩ := hl l[i] (List.getElem_mem hi)
    rw [Addr.add_lit] at d0 d1
    exact ⟨d0, d1, z1, z2⟩

theorem own_below1 {w w' : World} {base n : Nat} {t : TypeId} {z : Nat} {v : Value} {xs : List Value} (h : w.ownsRow base t z v n xs) (b : Below w.heap.size w w') : w'.ownsRow base t z v n xs :=
  h.kept (w' := w') (row := none) ⟨b.os, b.tape, b.output, b.size, fun k hk _ => b.block k hk⟩ (by
    rcases h.2 with ⟨h, _⟩ | ⟨g, cap, cur, h, _⟩
    · rw [h]; exact Or.inl rfl
    · rw [h]; exact Or.inr (by simp [Value.ownBlock]))

theorem isNil (a : ByteArray) : a.toList.isEmpty = decide (a.size = 0) := by
  rw [ByteArray.toList_eq]
  have h : a.size = a.data.toList.length := by rw [Array.length_toList]; rfl
  rw [h]
  cases a.data.toList <;> simp

set_option maxRecDepth 100000 in
set_option maxHeartbeats 1000000 in
theorem rise_calls (v : Value) (l : List Rc) (w : World) (h : Rcs w v l) (hl : l.length ≤ 9223372036854775807) :
    Calls Tryz.prog 64 #[v] w fun e w' => e = .returned (.int .i64 (riseR l)) ∧ Below w.heap.size w w' := by
  obtain ⟨p, c, rfl⟩ := h.len
  by_cases h4 : 4096 < l.length
  · have hfin : riseR l = 2 := by unfold riseR; rw [if_pos h4]
    have hd : decide ((4096 : Int) < (l.length : Int)) = true := by simp only [decide_eq_true_eq]; omega
    rw [hfin]
    go_enter Tryz.func64, Tryz.ntmps64
    go_wp2
    go_ret
    exact ⟨rfl, Below.refl _ _⟩
  · have hfin : Hid (riseR l = riseF ⟨#[]⟩ l) := by show _ = _; unfold riseR; rw [if_neg h4]
    have hd : decide ((4096 : Int) < (l.length : Int)) = false := by simp only [decide_eq_false_iff_not]; omega
    have HC : Hid _ := h
    clear h
    go_enter Tryz.func64, Tryz.ntmps64
    go_wp2
    go_loopw [3, 11] (fun la i wr => ∃ (k : Nat) (last : ByteArray), k ≤ l.length ∧ i = .int .i64 k ∧ la = .string last ∧ Hid (riseR l = riseF last (l.drop k)) ∧ Below w.heap.size w wr) (fun _ i _ => l.length - (intOf i).toNat)
    case atStart => exact ⟨0, ⟨#[]⟩, Nat.zero_le _, rfl, rfl, hfin, Below.refl _ _⟩
    case round =>
      obtain ⟨k, last, hk, rfl, rfl, hR, hb⟩ := hrel
      clear hfin
      by_cases hlt : k < l.length
      · have hd2 : decide ((k : Int) < l.length) = true := by simp only [decide_eq_true_eq]; omega
        rcases HC.out with ⟨_, rfl⟩ | ⟨b, off, cap, hv, hc⟩
        · simp at hlt
        · simp only [Value.slice.injEq] at hv
          obtain ⟨rfl, _, rfl⟩ := hv
          obtain ⟨c1, c2, z1, z2⟩ := hc k hlt
          have hbl := World.block_lt_of_cell? w _ c1
          have d1 := (hb.cell (p := ⟨b, off + k * 2, none⟩) hbl).trans c1
          have d2 := (hb.cell (p := ⟨b, off + k * 2 + 1, none⟩) hbl).trans c2
          have hdr : l.drop k = l[k] :: l.drop (k + 1) := List.drop_eq_getElem_cons hlt
          have hz := hb.size
          have hbw : Below w.heap.size w (wr.alloc (.cells #[.string l[k].key, .string l[k].dat] 47)) := hb.alloc hz _
          have hst : Hid (riseR l = if rcBad l[k] = true then 14 else if lsB last l[k].key = true then riseF l[k].key (l.drop (k + 1)) else 15) := by show _ = _; rw [hR.out, hdr]; rfl
          clear c1 c2 hc hR hdr
          unfold maxLen at z1 z2
          generalize l[k] = x at d1 d2 z1 z2 hbw hst
          have hq0 := isNil x.key
          have hfl := lsB_flip x.key last
          by_cases e0 : x.key.size = 0
          · have hb14 : Hid (riseR l = 14) := by show _ = _; rw [hst.out, if_pos (by unfold rcBad; rw [decide_eq_true e0]; rfl)]
            have g0 : x.key.toList.isEmpty = true := by rw [hq0]; simpa using e0
            clear hq0
            clear hst hfl
            go_wp2
            go_ret
            exact ⟨by rw [hb14.out]; rfl, hbw⟩
          · have g0 : x.key.toList.isEmpty = false := by rw [hq0]; simpa using e0
            clear hq0
            by_cases e1 : 64 < x.key.size
            · have hb14 : Hid (riseR l = 14) := by show _ = _; rw [hst.out, if_pos (by unfold rcBad; rw [decide_eq_true e1]; simp)]
              have g1 : decide ((64 : Int) < x.key.size) = true := by simp only [decide_eq_true_eq]; omega
              clear hst hfl
              go_wp2
              go_ret
              exact ⟨by rw [hb14.out]; rfl, hbw⟩
            · have g1 : decide ((64 : Int) < x.key.size) = false := by simp only [decide_eq_false_iff_not]; omega
              by_cases e2 : 4096 < x.dat.size
              · have hb14 : Hid (riseR l = 14) := by show _ = _; rw [hst.out, if_pos (by unfold rcBad; rw [decide_eq_true e2]; simp)]
                have g2 : decide ((4096 : Int) < x.dat.size) = true := by simp only [decide_eq_true_eq]; omega
                clear hst hfl
                go_wp2
                go_ret
                exact ⟨by rw [hb14.out]; rfl, hbw⟩
              · have g2 : decide ((4096 : Int) < x.dat.size) = false := by simp only [decide_eq_false_iff_not]; omega
                have hnb : rcBad x = false := by unfold rcBad; rw [decide_eq_false e0, decide_eq_false e1, decide_eq_false e2]; rfl
                cases hls : lsB last x.key with
                | true =>
                  have hst2 : Hid (riseR l = riseF x.key (l.drop (k + 1))) := by show _ = _; rw [hst.out, hnb, hls]; rfl
                  rw [hls] at hfl
                  clear hst hls hnb
                  go_wp2
                  go_roundw
                  case rel => exact ⟨k + 1, x.key, by omega, by go_num, rfl, hst2, hbw⟩
                  case measure => simp [intOf]; omega
                | false =>
                  have hst2 : Hid (riseR l = 15) := by show _ = _; rw [hst.out, hnb, hls]; rfl
                  rw [hls] at hfl
                  clear hst hls hnb
                  go_wp2
                  go_ret
                  exact ⟨by rw [hst2.out]; rfl, hbw⟩
      · have hd2 : decide ((k : Int) < l.length) = false := by simp only [decide_eq_false_iff_not]; omega
        have hfin2 : Hid (riseR l = 0) := by
          show _ = _
          rw [hR.out, List.drop_of_length_le (by omega)]; rfl
        clear hR
        go_wp2
        go_ret
        exact ⟨by rw [hfin2.out]; rfl, hb⟩
end Go.Proofs.YtpcafjbebhcilaaGreat
