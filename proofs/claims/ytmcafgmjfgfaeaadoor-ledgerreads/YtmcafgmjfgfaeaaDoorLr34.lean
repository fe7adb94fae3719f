/- The document's ledger: a copy, and an empty one. -/
import Derived.Test.YtmcafgmjfgfaeaaDoorLr33
import Derived.Test.YtmcafgmjfgfaeaaDoorLr17
namespace Go.Proofs.YtmcafgmjfgfaeaaDoor
open Go.RowKit
set_option linter.unusedSimpArgs false
set_option linter.unusedVariables false
variable {g base : Nat} {m l : List Kt}

theorem infoRa : (Tryd.prog.info? 50).map (fun i => (i.zero, i.size, i.bytes)) = some (some (.agg Kt.zero.cells.toArray), 12, 104) := by kernel_rfl
def rlA (g : Int) (v : Value) : Array Value := #[.int .i64 g, v]
theorem rlA_info (g : Int) (v : Value) : (Tryd.prog.info? 29).map (·.size) = some (rlA g v).size := by kernel_rfl
theorem rlA_same (g g' : Int) (v v' : Value) : (rlA g v).size = (rlA g' v').size := rfl
theorem rlA_one (g : Int) (p : Option Addr) (n c : Nat) : (rlA g (.slice p n c)).all (·.oneCell') = true := by kernel_rfl
theorem kt_one (k : Kt) : ∀ u ∈ k.cells, u.oneCell' = true := by
  intro u hu
  simp only [Kt.cells, List.mem_cons, List.not_mem_nil, or_false] at hu
  rcases hu with rfl | rfl | rfl | rfl | rfl | rfl | rfl | rfl | rfl | rfl | rfl | rfl <;> rfl
theorem kL_one (m : List Kt) : ∀ u ∈ kL m, u.oneCell' = true := by
  intro u hu
  obtain ⟨k, _, hk⟩ := List.mem_flatMap.1 hu
  exact kt_one k u hk
theorem own_slice {w : World} {b : Nat} {t : TypeId} {z : Nat} {v : Value} {n : Nat} {xs : List Value} (h : w.ownsRow b t z v n xs) : ∃ p c, v = .slice p n c := by
  rcases h.2 with ⟨rfl, h0⟩ | ⟨q, cap, cur, rfl, _⟩
  · exact ⟨none, 0, by rw [h0]⟩
  · exact ⟨_, _, rfl⟩

set_option maxRecDepth 100000 in
set_option maxHeartbeats 1000000 in
theorem copy_ref (w : World) (v : Value) (h : Rm w base v m) (hpos : 0 < m.length) (hlen : m.length ≤ 16) :
    Calls Tryd.prog 52 #[.agg #[.int .i64 g, v]] w fun e w' => ∃ q cap, e = .returned (.agg #[.int .i64 g, .slice (some ⟨q, 0, none⟩) m.length cap]) ∧ Rm w' w.heap.size (.slice (some ⟨q, 0, none⟩) m.length cap) m ∧ Below w.heap.size w w' := by
  obtain ⟨i0, hi, hz0, hz1, hz2⟩ := info_parts infoRa
  obtain ⟨q, cap, rfl, hbq, hq, hcap, hc⟩ := h.at hpos
  clear hc
  obtain ⟨W1, hW1, X1, Y1, B1, Z1⟩ : ∃ W1, ((w.alloc (.cells #[.int .i64 g, .slice (some ⟨q, 0, none⟩) m.length cap] 29)).alloc (.cells #[.int .i64 0, .slice none 0 0] 29)) = W1 ∧ Blk W1 w.heap.size #[.int .i64 g, .slice (some ⟨q, 0, none⟩) m.length cap] 29 ∧ Blk W1 (w.heap.size + 1) (rlA 0 (.slice none 0 0)) 29 ∧ Below w.heap.size w W1 ∧ W1.heap.size = w.heap.size + 2 :=
    ⟨_, rfl, (blk_new _ _ _ _ rfl).alloc _, blk_new _ _ _ _ (by simp), by go_grown, by simp⟩
  have h1 := h.below B1
  have c1 : W1.cell? ⟨w.heap.size, 1, none⟩ = some (.slice (some ⟨q, 0, none⟩) m.length cap) := X1.cell rfl
  have HR : Hid _ := h1
  have HX : Hid _ := X1
  have HY : Hid _ := Y1
  have HZ : Hid _ := Z1
  clear h1 h X1 Y1 Z1
  go_enter Tryd.func52, Tryd.ntmps52
  go_wp2_with (at_builtin; refine wpList_append_own _ rfl (.tmp 4) (.tmp 6) 27 rfl w.heap.size 50 i0 (.agg Kt.zero.cells.toArray) 12 104 Tryd.underlying27 hi hz0 hz1 hz2 rfl (by decide) (.slice none 0 0) 0 [] rfl (World.ownsRow_nil _ _ _ _) ⟨q, 0, none⟩ m.length cap (kL m) rfl (by rw [kL_len]) ?c1 ?c2 ?c3 ?c4 ?c5 ?_)
  case c1 => intro j u hu; exact World.ownsRow.cells HR.out rfl j u hu
  case c2 => exact kL_one m
  case c3 => unfold maxLen; omega
  case c4 => omega
  case c5 => have := HZ.out; omega
  intro v' w2 hown' hgrow _
  have R2 : Rm w2 w.heap.size v' m := hown'
  obtain ⟨q2, cap2, rfl, hb2, hq2, hc2, _⟩ := R2.at hpos
  have hz := HZ.out
  have B2 : Below W1.heap.size W1 w2 := ⟨hgrow.os, hgrow.tape, hgrow.output, hgrow.size, fun k hk => hgrow.block k hk (by simp [Value.ownBlock])⟩
  have X2 := Blk.below HX.out B2
  have Y2 := Blk.below HY.out B2
  have d0 : w2.cell? ⟨w.heap.size, 0, none⟩ = some (.int .i64 g) := X2.cell rfl
  obtain ⟨W3, hW3, Y3, B3⟩ : ∃ W3, w2.setRow (w.heap.size + 1) (rlA g (.slice (some ⟨q2, 0, none⟩) m.length cap2)) = W3 ∧ Blk W3 (w.heap.size + 1) (rlA g (.slice (some ⟨q2, 0, none⟩) m.length cap2)) 29 ∧ Below w.heap.size w W3 := ⟨_, rfl, Y2.setRow _, below_setRow (B1.trans (B2.mono (by omega))) _ _ (by omega)⟩
  have hne : q2 ≠ w.heap.size + 1 := fun e => by
    obtain ⟨_, h2 | ⟨q', cap', cur, hv, _, hh, _⟩⟩ := R2
    · simp at h2
    · injection hv with e1
      injection e1 with e1
      injection e1 with e1
      subst e1
      have := Y2
      unfold Blk at this
      rw [← e, hh] at this
      injection this with this
      injection this with _ e2
      revert e2; decide
  have R3 : Rm W3 w.heap.size (.slice (some ⟨q2, 0, none⟩) m.length cap2) m := by
    rw [← hW3]
    exact World.ownsRow.kept R2 (row := some (w.heap.size + 1)) ⟨rfl, rfl, rfl, by simp, fun k _ hk => setRow_other w2 _ k _ (fun e => hk (by rw [e]))⟩ (Or.inr (by simp [Value.ownBlock]; exact hne))
  go_wp2_with ((with_reducible refine st_row (ty := 29) (cs' := rlA g (.slice (some ⟨q2, 0, none⟩) m.length cap2)) Y2 (rlA_info _ _) (rlA_same _ _ _ _) (rlA_one _ _ _ _) hW3 ?_ ?_ ?_); rfl; rfl)
  try simp only [Exit.inBlock, Exit.then]
  have s0 : W3.cell? ⟨w.heap.size + 1, 0, none⟩ = some (.int .i64 g) := Y3.cell rfl
  have s1 : W3.cell? ⟨w.heap.size + 1, 1, none⟩ = some (.slice (some ⟨q2, 0, none⟩) m.length cap2) := Y3.cell rfl
  refine bodyPost_ret (by simp [results, Tryd.results52, go_sem, s0, s1]; rfl) rfl ?_
  exact ⟨q2, cap2, rfl, R3, B3⟩
end Go.Proofs.YtmcafgmjfgfaeaaDoor
