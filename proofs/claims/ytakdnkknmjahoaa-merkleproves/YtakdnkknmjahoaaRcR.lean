/- Which records may be: the document's answer. -/
import Derived.Test.YtakdnkknmjahoaaRcA
namespace Go.Proofs.Ytakdnkknmjahoaa
open Go.RowKit
set_option linter.unusedVariables false
set_option linter.unusedSimpArgs false

theorem lsB_nil (a : ByteArray) (h : a.size ≠ 0) : lsB ⟨#[]⟩ a = true := by
  unfold lsB
  have e : (⟨#[]⟩ : ByteArray).toList = [] := by rw [ByteArray.toList_eq]
  have h' : a.size = a.data.toList.length := by rw [Array.length_toList]; rfl
  rw [e, ByteArray.toList_eq]
  cases hh : a.data.toList with
  | nil => rw [hh] at h'; exact absurd h' h
  | cons x y => rfl

set_option maxRecDepth 100000 in
set_option maxHeartbeats 1000000 in
theorem rise_ref (v : Value) (l : List Rc) (w : World) (h : Rcs w v l) (hl : l.length ≤ 9223372036854775807) :
    Calls Try.prog 8 #[v] w fun e w' => e = .returned (.int .i64 (riseR l)) ∧ Below w.heap.size w w' := by
  obtain ⟨p, c, rfl⟩ := h.len
  by_cases h4 : 4096 < l.length
  · have hfin : riseR l = 2 := by unfold riseR; rw [if_pos h4]
    have hd : decide ((4096 : Int) < (l.length : Int)) = true := by simp only [decide_eq_true_eq]; omega
    rw [hfin]
    go_enter Try.func8, Try.ntmps8
    go_wp2
    go_ret
    exact ⟨rfl, Below.refl _ _⟩
  · have hfin : Hid (riseR l = riseF ⟨#[]⟩ l) := by show _ = _; unfold riseR; rw [if_neg h4]
    have hd : decide ((4096 : Int) < (l.length : Int)) = false := by simp only [decide_eq_false_iff_not]; omega
    have HC : Hid _ := h
    clear h
    go_enter Try.func8, Try.ntmps8
    go_wp2
    go_loopw [3] (fun i wr => ∃ (k : Nat) (last : ByteArray), k ≤ l.length ∧ i = .int .i64 k ∧ Hid (∀ j (hj : j < l.length), k = j + 1 → last = l[j].key) ∧ Hid (k = 0 → last = ⟨#[]⟩) ∧ Hid (riseR l = riseF last (l.drop k)) ∧ Below w.heap.size w wr) (fun i _ => l.length - (intOf i).toNat)
    case atStart => exact ⟨0, ⟨#[]⟩, Nat.zero_le _, rfl, fun j _ h => by omega, fun _ => rfl, hfin, Below.refl _ _⟩
    case round =>
      obtain ⟨k, last, hk, rfl, hJ, hL0, hR, hb⟩ := hrel
      clear hfin
      by_cases hlt : k < l.length
      · have hd2 : decide ((k : Int) < l.length) = true := by simp only [decide_eq_true_eq]; omega
        rcases HC.out with ⟨_, rfl⟩ | ⟨b, off, cap, hv, hc⟩
        · simp at hlt
        · simp only [Value.slice.injEq] at hv
          obtain ⟨rfl, _, rfl⟩ := hv
          obtain ⟨c1, c2, z1, z2⟩ := hc k hlt
          have hbl := World.block_lt_of_cell? w _ c1
          have d1 := (hb.cell (p := ⟨b, off + k * 2, none⟩) hbl).trans c1
          have d2 := (hb.cell (p := ⟨b, off + k * 2 + 1, none⟩) hbl).trans c2
          have hdr : l.drop k = l[k] :: l.drop (k + 1) := List.drop_eq_getElem_cons hlt
          have hz := hb.size
          have hst : Hid (riseR l = if rcBad l[k] = true then 14 else if lsB last l[k].key = true then riseF l[k].key (l.drop (k + 1)) else 15) := by show _ = _; rw [hR.out, hdr]; rfl
          have hprev : Hid (∀ j, k = j + 1 → wr.cell? ⟨b, off + j * 2, none⟩ = some (.string last)) := fun j hj => by
            have hjl : j < l.length := by omega
            obtain ⟨q1, _⟩ := hc j hjl
            rw [hJ.out j hjl hj]
            exact (hb.cell (p := ⟨b, off + j * 2, none⟩) (World.block_lt_of_cell? w _ q1)).trans q1
          have hnext : Hid (∀ j (hj : j < l.length), k + 1 = j + 1 → l[k].key = l[j].key) := fun j hj e => by
            have : j = k := by omega
            subst this; rfl
          clear c1 c2 hc hR hdr hJ
          unfold maxLen at z1 z2
          generalize l[k] = x at d1 d2 z1 z2 hst hnext
          have hq0 := isNil x.key
          by_cases e0 : x.key.size = 0
          · have hb14 : Hid (riseR l = 14) := by show _ = _; rw [hst.out, if_pos (by unfold rcBad; rw [decide_eq_true e0]; rfl)]
            have g0 : x.key.toList.isEmpty = true := by rw [hq0]; simpa using e0
            clear hst hq0
            go_wp2
            go_ret
            exact ⟨by rw [hb14.out]; rfl, hb⟩
          · have g0 : x.key.toList.isEmpty = false := by rw [hq0]; simpa using e0
            clear hq0
            by_cases e1 : 64 < x.key.size
            · have hb14 : Hid (riseR l = 14) := by show _ = _; rw [hst.out, if_pos (by unfold rcBad; rw [decide_eq_true e1]; simp)]
              have g1 : decide ((64 : Int) < x.key.size) = true := by simp only [decide_eq_true_eq]; omega
              clear hst
              go_wp2
              go_ret
              exact ⟨by rw [hb14.out]; rfl, hb⟩
            · have g1 : decide ((64 : Int) < x.key.size) = false := by simp only [decide_eq_false_iff_not]; omega
              by_cases e2 : 4096 < x.dat.size
              · have hb14 : Hid (riseR l = 14) := by show _ = _; rw [hst.out, if_pos (by unfold rcBad; rw [decide_eq_true e2]; simp)]
                have g2 : decide ((4096 : Int) < x.dat.size) = true := by simp only [decide_eq_true_eq]; omega
                clear hst
                go_wp2
                go_ret
                exact ⟨by rw [hb14.out]; rfl, hb⟩
              · have g2 : decide ((4096 : Int) < x.dat.size) = false := by simp only [decide_eq_false_iff_not]; omega
                have hnb : rcBad x = false := by unfold rcBad; rw [decide_eq_false e0, decide_eq_false e1, decide_eq_false e2]; rfl
                rcases Nat.eq_zero_or_pos k with hk0 | hk0
                · have hst2 : Hid (riseR l = riseF x.key (l.drop (k + 1))) := by show _ = _; rw [hst.out, hnb, hL0.out hk0, lsB_nil x.key e0]; rfl
                  subst hk0
                  clear hst hnb
                  simp only [Nat.zero_mul, Nat.add_zero] at d1 d2
                  go_wp2
                  go_region
                  go_wp2
                  go_roundw
                  case rel => exact ⟨1, x.key, by omega, by go_num, hnext.out, fun h => by omega, hst2, hb.drew⟩
                  case measure => simp [intOf]; omega
                · obtain ⟨j, rfl⟩ : ∃ j, k = j + 1 := ⟨k - 1, by omega⟩
                  have d0 := hprev.out j rfl
                  have gk : decide ((0 : Int) < (j : Int) + 1) = true := by simp only [decide_eq_true_eq]; omega
                  have hlo : lsB last x.key = Op.bytesLess last.toList x.key.toList := rfl
                  cases hls : lsB last x.key with
                  | true =>
                    have hst2 : Hid (riseR l = riseF x.key (l.drop (j + 1 + 1))) := by show _ = _; rw [hst.out, hnb, hls]; rfl
                    rw [hls] at hlo
                    have hlo' := hlo.symm
                    clear hst hls hnb hprev hlo
                    go_wp2
                    go_region
                    go_wp2
                    go_roundw
                    case rel => exact ⟨j + 1 + 1, x.key, by omega, by go_num, hnext.out, fun h => by omega, hst2, hb.drew⟩
                    case measure => simp [intOf]; omega
                  | false =>
                    have hst2 : Hid (riseR l = 15) := by show _ = _; rw [hst.out, hnb, hls]; rfl
                    rw [hls] at hlo
                    have hlo' := hlo.symm
                    clear hst hls hnb hprev hlo
                    go_wp2
                    go_region
                    go_wp2
                    go_ret
                    exact ⟨by rw [hst2.out]; rfl, hb.drew⟩
      · have hd2 : decide ((k : Int) < l.length) = false := by simp only [decide_eq_false_iff_not]; omega
        have hfin2 : Hid (riseR l = 0) := by
          show _ = _
          rw [hR.out, List.drop_of_length_le (by omega)]; rfl
        clear hR
        go_wp2
        go_ret
        exact ⟨by rw [hfin2.out]; rfl, hb⟩
end Go.Proofs.Ytakdnkknmjahoaa
