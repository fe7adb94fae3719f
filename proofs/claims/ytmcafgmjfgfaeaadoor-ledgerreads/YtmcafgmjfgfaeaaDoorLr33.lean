/- The document's ledger in memory: why it refuses, all of a part, a copy. -/
import Derived.Test.YtmcafgmjfgfaeaaDoorLr32
import Derived.Test.YtmcafgmjfgfaeaaDoorLr11
import Derived.Test.YtmcafgmjfgfaeaaDoorLr12
import Derived.Deep.OwnRows
namespace Go.Proofs.YtmcafgmjfgfaeaaDoor
open Go.RowKit
set_option linter.unusedSimpArgs false
set_option linter.unusedVariables false
variable {g base : Nat} {m l : List Kt}

/-- The document's accounts in a row of one's own. -/
def Rm (w : World) (base : Nat) (v : Value) (m : List Kt) : Prop := w.ownsRow base 50 12 v m.length (kL m)
theorem Rm.below {w w' : World} {v : Value} (h : Rm w base v m) (hb : Below w.heap.size w w') : Rm w' base v m :=
  World.ownsRow.kept h (row := none) ⟨hb.os, hb.tape, hb.output, hb.size, fun k hk _ => hb.block k hk⟩ (by cases v.ownBlock <;> simp)
theorem Rm.at {w : World} {v : Value} (h : Rm w base v m) (hp : 0 < m.length) :
    ∃ q cap, v = .slice (some ⟨q, 0, none⟩) m.length cap ∧ base ≤ q ∧ q < w.heap.size ∧ m.length ≤ cap ∧ ∀ i, i < m.length → (∀ j, j < 11 → w.cell? ⟨q, i * 12 + j, none⟩ = some (.int .i64 ((kAt m i).n j))) ∧ w.cell? ⟨q, i * 12 + 11, none⟩ = some (.string (kAt m i).reply) ∧ ∀ o, w.frozen? ⟨q, o, none⟩ = false := by
  obtain ⟨h1, h2 | ⟨q, cap, cur, hv, hb, hh, hc, hm, hs, ht⟩⟩ := id h
  · omega
  · have X : Blk w q cur 50 := hh
    have key : ∀ i j u, i < m.length → (kAt m i).cells[j]? = some u → w.cell? ⟨q, i * 12 + j, none⟩ = some u := fun i j u hi hu => by
      have := kL_get m i j u hi hu
      exact X.cell (by
        rw [← ht] at this
        have hlt := (List.getElem?_eq_some_iff.1 this).1
        rw [List.getElem?_take] at this
        split at this
        · rw [← Array.getElem?_toList]; exact this
        · cases this)
    exact ⟨q, cap, hv, hb, X.lt, hc, fun i hi => ⟨fun j hj => key i j _ hi (Kt.num _ j hj), key i 11 _ hi rfl, fun o => X.frozen⟩⟩
theorem Rm.set {w : World} {q cap : Nat} (h : Rm w base (.slice (some ⟨q, 0, none⟩) m.length cap) m) {i j : Nat} (v : Int) (hi : i < m.length) (hj : j < 11) : Rm (w.setCell ⟨q, i * 12 + j, none⟩ (.int .i64 v)) base (.slice (some ⟨q, 0, none⟩) m.length cap) (upd m i j v) := by
  unfold Rm at h ⊢
  rw [upd_len]
  obtain ⟨h1, ⟨h2, _⟩ | ⟨q', cap', cur, hv, hb, hh, hc, hm, hs, ht⟩⟩ := h
  · cases h2
  · injection hv with e1 e2 e3
    injection e1 with e1
    injection e1 with e1
    subst e1 e3
    refine ⟨by rw [kL_len, upd_len], Or.inr ⟨q, cap, cur.setIfInBounds (i * 12 + j) (.int .i64 v), rfl, hb, ?_, hc, hm, by simpa using hs, ?_⟩⟩
    · exact (show Blk w q cur 50 from hh).set (i * 12 + j) (.int .i64 v)
    · have e := kC_upd (l := m) v hi hj
      have e2 := congrArg Array.toList e
      simp only [kC, Array.toList_setIfInBounds] at e2
      rw [Array.toList_setIfInBounds, List.take_set, ht]
      exact e2
theorem Rm.weak {w : World} {base2 : Nat} {v : Value} (h : Rm w base v m) (hb : base2 ≤ base) : Rm w base2 v m := by
  refine ⟨h.1, ?_⟩
  rcases h.2 with h2 | ⟨q, cap, cur, h1, h2, h3⟩
  · exact Or.inl h2
  · exact Or.inr ⟨q, cap, cur, h1, by omega, h3⟩

set_option maxRecDepth 100000 in
set_option maxHeartbeats 1000000 in
theorem total_ref (w : World) (v : Value) (pt : Int) (p : Nat) (hpt : pt = p) (h : Rm w base v m) (S : Sim m l) (H : Inv g l) (hp : p ≤ 4) :
    Calls Tryd.prog 46 #[.agg #[.int .i64 g, v], .int .i64 pt] w fun e w' => e = .returned (.int .i64 (tot l (apf p))) ∧ Below w.heap.size w w' := by
  subst hpt
  have hlen := H.len
  have hpos := H.pos
  have hml := S.len
  obtain ⟨q, cap, rfl, hbq, hq, hcap, hc⟩ := h.at (by omega)
  have HC : Hid _ := hc
  have HS : Hid _ := fun (i : Nat) (hi : i < l.length) => S.nums H hi hp
  have HT : Hid _ := fun (k : Nat) (hk : k ≤ l.length) => H.sums k hk (part_of hp)
  have HN : Hid _ := fun (k : Nat) (hk : k < l.length) => tot_take l k (apf p) hk
  rw [hml]
  clear hc h
  obtain ⟨W1, hW1, X1, B1⟩ : ∃ W1, (w.alloc (.cells #[.int .i64 g, .slice (some ⟨q, 0, none⟩) l.length cap] 29)) = W1 ∧ Blk W1 w.heap.size #[.int .i64 g, .slice (some ⟨q, 0, none⟩) l.length cap] 29 ∧ Below w.heap.size w W1 := ⟨_, rfl, blk_new _ _ _ _ rfl, by go_grown⟩
  go_enter Tryd.func46, Tryd.ntmps46
  go_wp2
  go_loopw [5, 6] (fun n i wr => ∃ k : Nat, k ≤ l.length ∧ i = .int .i64 k ∧ n = .int .i64 (tot (l.take k) (apf p)) ∧ Blk wr w.heap.size #[.int .i64 g, .slice (some ⟨q, 0, none⟩) l.length cap] 29 ∧ Below w.heap.size w wr) (fun _ i _ => l.length - (intOf i).toNat)
  case atStart => exact ⟨0, Nat.zero_le _, rfl, rfl, X1, B1⟩
  case round =>
    obtain ⟨k, hk, rfl, rfl, Xr, br⟩ := hrel
    have c1 : wr.cell? ⟨w.heap.size, 1, none⟩ = some (.slice (some ⟨q, 0, none⟩) l.length cap) := Xr.cell rfl
    by_cases hlt : k < l.length
    · have hd : decide ((k : Int) < l.length) = true := by simp only [decide_eq_true_eq]; omega
      obtain ⟨d, _, _⟩ := HC.out k (by omega)
      have d1 : wr.cell? ⟨q, k * 12 + p, none⟩ = some (.int .i64 ((kAt m k).n p)) := (br.cell (p := ⟨q, k * 12 + p, none⟩) hq).trans (d p (by omega))
      have d2 : wr.cell? ⟨q, k * 12 + 5 + p, none⟩ = some (.int .i64 ((kAt m k).n (5 + p))) := by
        have := (br.cell (p := ⟨q, k * 12 + (5 + p), none⟩) hq).trans (d (5 + p) (by omega))
        rw [← Nat.add_assoc] at this
        exact this
      obtain ⟨s1, s2, s3, s4⟩ := HS.out k hlt
      have t1 := HT.out k hk
      have t2 := HN.out k hlt
      have t3 := HT.out (k + 1) (by omega)
      rw [t2] at t3
      have HN2 : Hid _ := t2
      have HS3 : Hid _ := s3
      rw [← s3] at t3
      clear d t2 s3
      generalize tot (l.take k) (apf p) = t at *
      generalize (kAt m k).n p = x at *
      generalize (kAt m k).n (5 + p) = y at *
      go_wp2
      go_quiet (fail)
      go_wp2
      refine ⟨⟨k + 1, by omega, by norm_cast, ?_, Xr.below (drewN_below _ _ _), br.trans (drewN_below _ _ _)⟩, ?_⟩
      · rw [HN2.out, ← HS3.out, Int.add_assoc]
      · simp [intOf]; omega
    · have hd : decide ((k : Int) < l.length) = false := by simp only [decide_eq_false_iff_not]; omega
      have htk : l.take k = l := List.take_of_length_le (by omega)
      rw [htk]
      go_wp2
      go_ret
      exact ⟨rfl, br⟩
end Go.Proofs.YtmcafgmjfgfaeaaDoor
