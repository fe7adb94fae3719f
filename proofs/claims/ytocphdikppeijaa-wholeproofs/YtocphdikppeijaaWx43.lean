/- awake: the chapter's example holds. -/
import Derived.Test.YtocphdikppeijaaWx42
import Derived.Test.YtocphdikppeijaaWx25
namespace Go.Proofs.Ytocphdikppeijaa
open Go.RowKit
set_option linter.unusedSimpArgs false
set_option linter.unusedVariables false
variable {p b x y : Nat} {S : List (Int × ByteArray)}

theorem ptC_get : ∀ (L : List (Pt × Value)) (i : Nat) (h : i < L.length), (ptC L)[i * 4]? = some (.int .i64 L[i].1.idx) ∧ (ptC L)[i * 4 + 1]? = some (.string L[i].1.key) ∧ (ptC L)[i * 4 + 2]? = some (.string L[i].1.dat) ∧ (ptC L)[i * 4 + 3]? = some L[i].2
  | [], i, h => by simp at h
  | q :: L, i, h => by
    have e : ptC (q :: L) = .int .i64 q.1.idx :: .string q.1.key :: .string q.1.dat :: q.2 :: ptC L := by simp [ptC]
    rw [e]
    match i, h with
    | 0, _ => exact ⟨rfl, rfl, rfl, rfl⟩
    | i + 1, h =>
      have ih := ptC_get L i (by simpa using h)
      refine ⟨?_, ?_, ?_, ?_⟩
      · rw [show (i + 1) * 4 = i * 4 + 1 + 1 + 1 + 1 by omega]; simp only [List.getElem?_cons_succ]; exact ih.1
      · rw [show (i + 1) * 4 + 1 = i * 4 + 1 + 1 + 1 + 1 + 1 by omega]; simp only [List.getElem?_cons_succ]; exact ih.2.1
      · rw [show (i + 1) * 4 + 2 = i * 4 + 2 + 1 + 1 + 1 + 1 by omega]; simp only [List.getElem?_cons_succ]; exact ih.2.2.1
      · rw [show (i + 1) * 4 + 3 = i * 4 + 3 + 1 + 1 + 1 + 1 by omega]; simp only [List.getElem?_cons_succ]; exact ih.2.2.2
theorem strs_lf {w : World} {v : Value} {l : List ByteArray} (h : Lf w v l) (hz : ∀ s ∈ l, s.size ≤ 32) : Strs w v l := by
  by_cases h0 : l.length = 0
  · obtain rfl := List.length_eq_zero_iff.1 h0
    obtain ⟨a, cap, e, _⟩ := h
    exact Or.inl ⟨⟨a, cap, e⟩, rfl⟩
  · obtain ⟨g, off, cap, e, _, _, hx⟩ := h.at (by omega)
    exact Or.inr ⟨g, off, cap, e, fun i hi => ⟨hx i hi, Nat.le_trans (hz _ (List.getElem_mem hi)) (by unfold maxLen; omega)⟩⟩
theorem ptsC_own {w : World} {base : Nat} {v : Value} {L : List (Pt × Value)} (h : w.ownsRow base 76 4 v L.length (ptC L)) (hs : ∀ q ∈ L, w.ownsRow base 9 1 q.2 q.1.sides.length (txC q.1.sides)) (hok : ∀ q ∈ L, ptOk q.1 = true) : PtsC w v (L.map Prod.fst) := by
  by_cases h0 : L.length = 0
  · obtain rfl := List.length_eq_zero_iff.1 h0
    obtain ⟨p, c, rfl⟩ := own_sliceM h
    exact ⟨Or.inl ⟨⟨p, c, rfl⟩, rfl⟩, fun k hk => by simp at hk⟩
  · obtain ⟨g, cap, rfl, _, _, hx⟩ := own_at h (by omega)
    have hl : (L.map Prod.fst).length = L.length := by simp
    refine ⟨Or.inr ⟨g, 0, cap, by rw [hl], fun i hi => ?_⟩, fun k hk g' off' cap' e => ?_⟩
    · have hi' : i < L.length := by omega
      obtain ⟨c0, c1, c2, c3⟩ := ptC_get L i hi'
      have ok := ptOk_parts (hok L[i] (List.getElem_mem hi'))
      have hm := hs L[i] (List.getElem_mem hi')
      have e : (L.map Prod.fst)[i] = L[i].1 := by simp
      rw [e, Nat.zero_add]
      exact ⟨L[i].2, hx _ _ c0, hx _ _ c1, hx _ _ c2, hx _ _ c3, strs_lf (lf_own hm) ok.2.2.2.2, Nat.le_trans ok.2.1 (by unfold maxLen; omega), Nat.le_trans ok.2.2.1 (by unfold maxLen; omega)⟩
    · have hi' : k < L.length := by omega
      simp only [Value.slice.injEq, Option.some.injEq, Addr.mk.injEq, and_true] at e
      obtain ⟨⟨rfl, rfl⟩, _⟩ := e
      obtain ⟨c0, c1, c2, c3⟩ := ptC_get L k hi'
      have e : (L.map Prod.fst)[k] = L[k].1 := by simp
      rw [e, Nat.zero_add]
      exact ⟨L[k].2, hx _ _ c3, lf_own (hs L[k] (List.getElem_mem hi'))⟩

def exL : List Rc := [⟨⟨#[97]⟩, ⟨#[49]⟩⟩, ⟨⟨#[99]⟩, ⟨#[51]⟩⟩]
theorem exRise : riseR exL = 0 := by decide +kernel
theorem exKb : isK ⟨#[98]⟩ = true := by decide +kernel
theorem exKa : isK ⟨#[97]⟩ = true := by decide +kernel
theorem exLen : exL.length = 2 := rfl
theorem exSpot {r : Nat} (h : Spot exL ⟨#[98]⟩ r) : r = 1 := by
  have h1 := h.le
  rw [exLen] at h1
  by_cases h2 : r = 0
  · have h3 : lsB ⟨#[97]⟩ ⟨#[98]⟩ = false := h.hi 0 (by rw [exLen]; omega) (by omega)
    have h4 : lsB ⟨#[97]⟩ ⟨#[98]⟩ = true := by decide +kernel
    rw [h4] at h3; cases h3
  · by_cases h5 : r = 2
    · have h3 : lsB ⟨#[99]⟩ ⟨#[98]⟩ = true := h.lo 1 (by rw [exLen]; omega) (by omega)
      have h4 : lsB ⟨#[99]⟩ ⟨#[98]⟩ = false := by decide +kernel
      rw [h4] at h3; cases h3
    · omega
theorem exHas : hasAt exL 1 ⟨#[98]⟩ = false := by decide +kernel
theorem exPaths {T ls : List ByteArray} {ts : List Pt} (h : PathsOk T exL ls ⟨#[98]⟩ 1 ts) : ∃ t u, ts = [t, u] ∧ t.key = ⟨#[97]⟩ := by
  obtain ⟨A, B, rfl, hA, hB⟩ := h.2 exHas
  obtain ⟨t, rfl, _, m, hm, hk, _⟩ := hA.2 (by omega)
  obtain ⟨u, rfl, _⟩ := hB.2 (by rw [exLen]; omega)
  refine ⟨t, u, rfl, ?_⟩
  have e : exL[1 - 1]? = some ⟨⟨#[97]⟩, ⟨#[49]⟩⟩ := rfl
  rw [e] at hm
  injection hm with hm
  rw [hk, ← hm]
theorem dig_ne (T : List ByteArray) (s : ByteArray) : dig T s ≠ ⟨#[]⟩ := fun e => by
  have h := dig_size T s
  rw [e] at h
  cases h

end Go.Proofs.Ytocphdikppeijaa

namespace Go.Proofs.Ytocphdikppeijaa
open Go.RowKit
set_option linter.unusedVariables false
set_option linter.unusedSimpArgs false

theorem lsB_nil (a : ByteArray) (h : a.size ≠ 0) : lsB ⟨#[]⟩ a = true := by
  unfold lsB
  have e : (⟨#[]⟩ : ByteArray).toList = [] := by rw [ByteArray.toList_eq]
  have h' : a.size = a.data.toList.length := by rw [Array.length_toList]; rfl
  rw [e, ByteArray.toList_eq]
  cases hh : a.data.toList with
  | nil => rw [hh] at h'; exact absurd h' h
  | cons x y => rfl

set_option maxRecDepth 100000 in
set_option maxHeartbeats 1000000 in
theorem rise_ref (v : Value) (l : List Rc) (w : World) (h : Rcs w v l) (hl : l.length ≤ 9223372036854775807) :
    Calls Try.prog 7 #[v] w fun e w' => e = .returned (.int .i64 (riseR l)) ∧ Below w.heap.size w w' := by
  obtain ⟨p, c, rfl⟩ := h.len
  by_cases h4 : 4096 < l.length
  · have hfin : riseR l = 2 := by unfold riseR; rw [if_pos h4]
    have hd : decide ((4096 : Int) < (l.length : Int)) = true := by simp only [decide_eq_true_eq]; omega
    rw [hfin]
    go_enter Try.func7, Try.ntmps7
    go_wp2
    go_ret
    exact ⟨rfl, Below.refl _ _⟩
  · have hfin : Hid (riseR l = riseF ⟨#[]⟩ l) := by show _ = _; unfold riseR; rw [if_neg h4]
    have hd : decide ((4096 : Int) < (l.length : Int)) = false := by simp only [decide_eq_false_iff_not]; omega
    have HC : Hid _ := h
    clear h
    go_enter Try.func7, Try.ntmps7
    go_wp2
    go_loopw [3] (fun i wr => ∃ (k : Nat) (last : ByteArray), k ≤ l.length ∧ i = .int .i64 k ∧ Hid (∀ j (hj : j < l.length), k = j + 1 → last = l[j].key) ∧ Hid (k = 0 → last = ⟨#[]⟩) ∧ Hid (riseR l = riseF last (l.drop k)) ∧ Below w.heap.size w wr) (fun i _ => l.length - (intOf i).toNat)
    case atStart => exact ⟨0, ⟨#[]⟩, Nat.zero_le _, rfl, fun j _ h => by omega, fun _ => rfl, hfin, Below.refl _ _⟩
    case round =>
      obtain ⟨k, last, hk, rfl, hJ, hL0, hR, hb⟩ := hrel
      clear hfin
      by_cases hlt : k < l.length
      · have hd2 : decide ((k : Int) < l.length) = true := by simp only [decide_eq_true_eq]; omega
        rcases HC.out with ⟨_, rfl⟩ | ⟨b, off, cap, hv, hc⟩
        · simp at hlt
        · simp only [Value.slice.injEq] at hv
          obtain ⟨rfl, _, rfl⟩ := hv
          obtain ⟨c1, c2, z1, z2⟩ := hc k hlt
          have hbl := World.block_lt_of_cell? w _ c1
          have d1 := (hb.cell (p := ⟨b, off + k * 2, none⟩) hbl).trans c1
          have d2 := (hb.cell (p := ⟨b, off + k * 2 + 1, none⟩) hbl).trans c2
          have hdr : l.drop k = l[k] :: l.drop (k + 1) := List.drop_eq_getElem_cons hlt
          have hz := hb.size
          have hst : Hid (riseR l = if rcBad l[k] = true then 14 else if lsB last l[k].key = true then riseF l[k].key (l.drop (k + 1)) else 15) := by show _ = _; rw [hR.out, hdr]; rfl
          have hprev : Hid (∀ j, k = j + 1 → wr.cell? ⟨b, off + j * 2, none⟩ = some (.string last)) := fun j hj => by
            have hjl : j < l.length := by omega
            obtain ⟨q1, _⟩ := hc j hjl
            rw [hJ.out j hjl hj]
            exact (hb.cell (p := ⟨b, off + j * 2, none⟩) (World.block_lt_of_cell? w _ q1)).trans q1
          have hnext : Hid (∀ j (hj : j < l.length), k + 1 = j + 1 → l[k].key = l[j].key) := fun j hj e => by
            have : j = k := by omega
            subst this; rfl
          clear c1 c2 hc hR hdr hJ
          unfold maxLen at z1 z2
          generalize l[k] = x at d1 d2 z1 z2 hst hnext
          have hq0 := isNil x.key
          by_cases e0 : x.key.size = 0
          · have hb14 : Hid (riseR l = 14) := by show _ = _; rw [hst.out, if_pos (by unfold rcBad; rw [decide_eq_true e0]; rfl)]
            have g0 : x.key.toList.isEmpty = true := by rw [hq0]; simpa using e0
            clear hst hq0
            go_wp2
            go_ret
            exact ⟨by rw [hb14.out]; rfl, hb⟩
          · have g0 : x.key.toList.isEmpty = false := by rw [hq0]; simpa using e0
            clear hq0
            by_cases e1 : 64 < x.key.size
            · have hb14 : Hid (riseR l = 14) := by show _ = _; rw [hst.out, if_pos (by unfold rcBad; rw [decide_eq_true e1]; simp)]
              have g1 : decide ((64 : Int) < x.key.size) = true := by simp only [decide_eq_true_eq]; omega
              clear hst
              go_wp2
              go_ret
              exact ⟨by rw [hb14.out]; rfl, hb⟩
            · have g1 : decide ((64 : Int) < x.key.size) = false := by simp only [decide_eq_false_iff_not]; omega
              by_cases e2 : 4096 < x.dat.size
              · have hb14 : Hid (riseR l = 14) := by show _ = _; rw [hst.out, if_pos (by unfold rcBad; rw [decide_eq_true e2]; simp)]
                have g2 : decide ((4096 : Int) < x.dat.size) = true := by simp only [decide_eq_true_eq]; omega
                clear hst
                go_wp2
                go_ret
                exact ⟨by rw [hb14.out]; rfl, hb⟩
              · have g2 : decide ((4096 : Int) < x.dat.size) = false := by simp only [decide_eq_false_iff_not]; omega
                have hnb : rcBad x = false := by unfold rcBad; rw [decide_eq_false e0, decide_eq_false e1, decide_eq_false e2]; rfl
                rcases Nat.eq_zero_or_pos k with hk0 | hk0
                · have hst2 : Hid (riseR l = riseF x.key (l.drop (k + 1))) := by show _ = _; rw [hst.out, hnb, hL0.out hk0, lsB_nil x.key e0]; rfl
                  subst hk0
                  clear hst hnb
                  simp only [Nat.zero_mul, Nat.add_zero] at d1 d2
                  go_wp2
                  go_region
                  go_wp2
                  go_roundw
                  case rel => exact ⟨1, x.key, by omega, by go_num, hnext.out, fun h => by omega, hst2, hb.drew⟩
                  case measure => simp [intOf]; omega
                · obtain ⟨j, rfl⟩ : ∃ j, k = j + 1 := ⟨k - 1, by omega⟩
                  have d0 := hprev.out j rfl
                  have gk : decide ((0 : Int) < (j : Int) + 1) = true := by simp only [decide_eq_true_eq]; omega
                  have hlo : lsB last x.key = Op.bytesLess last.toList x.key.toList := rfl
                  cases hls : lsB last x.key with
                  | true =>
                    have hst2 : Hid (riseR l = riseF x.key (l.drop (j + 1 + 1))) := by show _ = _; rw [hst.out, hnb, hls]; rfl
                    rw [hls] at hlo
                    have hlo' := hlo.symm
                    clear hst hls hnb hprev hlo
                    go_wp2
                    go_region
                    go_wp2
                    go_roundw
                    case rel => exact ⟨j + 1 + 1, x.key, by omega, by go_num, hnext.out, fun h => by omega, hst2, hb.drew⟩
                    case measure => simp [intOf]; omega
                  | false =>
                    have hst2 : Hid (riseR l = 15) := by show _ = _; rw [hst.out, hnb, hls]; rfl
                    rw [hls] at hlo
                    have hlo' := hlo.symm
                    clear hst hls hnb hprev hlo
                    go_wp2
                    go_region
                    go_wp2
                    go_ret
                    exact ⟨by rw [hst2.out]; rfl, hb.drew⟩
      · have hd2 : decide ((k : Int) < l.length) = false := by simp only [decide_eq_false_iff_not]; omega
        have hfin2 : Hid (riseR l = 0) := by
          show _ = _
          rw [hR.out, List.drop_of_length_le (by omega)]; rfl
        clear hR
        go_wp2
        go_ret
        exact ⟨by rw [hfin2.out]; rfl, hb⟩
end Go.Proofs.Ytocphdikppeijaa

namespace Go.Proofs.Ytocphdikppeijaa
open Go.RowKit
set_option linter.unusedSimpArgs false
set_option linter.unusedVariables false
variable {p b x y : Nat} {T : List ByteArray} {S : List (Int × ByteArray)}

/-- Records in a slice that can be cut. -/
def RcsC (w : World) (v : Value) (l : List Rc) : Prop := Rcs w v l ∧ ∃ a cap, v = .slice a l.length cap ∧ l.length ≤ cap ∧ cap ≤ 9223372036854775807
theorem RcsC.below {w w' : World} {v : Value} {l : List Rc} (h : RcsC w v l) (hb : Below w.heap.size w w') : RcsC w' v l := ⟨h.1.below hb, h.2⟩
theorem RcsC.len {w : World} {v : Value} {l : List Rc} (h : RcsC w v l) : l.length ≤ 9223372036854775807 := by
  obtain ⟨_, _, _, _, h1, h2⟩ := h
  omega
end Go.Proofs.Ytocphdikppeijaa
