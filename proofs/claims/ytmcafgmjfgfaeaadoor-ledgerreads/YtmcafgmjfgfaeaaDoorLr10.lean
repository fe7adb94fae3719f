/- A struct in a block: loaded and stored whole. No program is named here. -/
import Derived.Test.YtmcafgmjfgfaeaaDoorLr01
import Derived.Handy
import Derived.WalkLawsBesides
import Derived.Test.YtmcafgmjfgfaeaaDoorLr09
import Derived.Test.YtmcafgmjfgfaeaaDoorRows
import Derived.Deep.QuietTactic
import Derived.BigQuiet
namespace Go.Proofs.YtmcafgmjfgfaeaaDoor
open Go.RowKit
set_option linter.unusedSimpArgs false
set_option linter.unusedVariables false
/-- The walk's step at a store of a whole row: the world behind it has a name. -/
theorem st_row {P : Program} {ops : Array Oper} {rest : List Oper} {dst : Option Tmp} {type : TypeId} {pos : String} {after : Array Edge} {a : Act} {w : World} {Q : Exit → Act → World → Prop} {ty : TypeId} {x y : Operand}
    {k : Nat} {cs cs' : Array Value} {t : TypeId} (X : Blk w k cs t) (hi : (P.info? ty).map (·.size) = some cs'.size) (hs : cs.size = cs'.size) (h1 : cs'.all (·.oneCell') = true) {W : World} (hW : w.setRow k cs' = W)
    (hx : a.eval x = .pointer (some ⟨k, 0, none⟩)) (hy : a.eval y = .agg cs') (h : wpList P ops Q rest (a.put dst undef) W) :
    wpList P ops Q ({ dst := dst, op := .store ty x y, type := type, pos := pos, after := after, guard := none } :: rest) a w := by
  subst hW
  exact wpList_store_row (o := { dst := dst, op := .store ty x y, type := type, pos := pos, after := after, guard := none }) rfl ty x y rfl k cs' hx hy t cs X hi hs h1 h
/-- A struct's block behind a store of the whole. -/
theorem setRow_named {w : World} {k : Nat} {cs : Array Value} {t : TypeId} (X : Blk w k cs t) (cs' : Array Value) : ∃ W, w.setRow k cs' = W ∧ Blk W k cs' t ∧ (∀ j, j ≠ k → W.heap[j]? = w.heap[j]?) ∧ W.heap.size = w.heap.size ∧ W.os = w.os ∧ W.tape = w.tape ∧ W.output = w.output :=
  ⟨_, rfl, X.setRow cs', fun j hj => setRow_other w k j cs' hj, by simp, rfl, rfl, rfl⟩
theorem below_row {w0 w W : World} {k B : Nat} {cs' : Array Value} (h : Below B w0 w) (hW : w.setRow k cs' = W) (hk : B ≤ k) : Below B w0 W := hW ▸ below_setRow h k cs' hk
end Go.Proofs.YtmcafgmjfgfaeaaDoor

namespace Go.Proofs.YtmcafgmjfgfaeaaDoor
open Go.RowKit
set_option linter.unusedSimpArgs false
set_option linter.unusedVariables false

/-- A ledger: its block, its clients' block. -/
structure Lg (w : World) (p b g : Nat) (l : List Kt) : Prop where
  blk : Blk w p #[.slice (some ⟨b, 0, none⟩) l.length l.length, .int .i64 g] 62
  row : Blk w b (kC l) 67
  ne : p ≠ b
  inv : Inv g l
variable {p b g : Nat} {l : List Kt}
theorem Lg.below {w w' : World} (h : Lg w p b g l) (hb : Below w.heap.size w w') : Lg w' p b g l := ⟨h.blk.below hb, h.row.below hb, h.ne, h.inv⟩
theorem Lg.alloc {w : World} (h : Lg w p b g l) (o : Obj) : Lg (w.alloc o) p b g l := ⟨h.blk.alloc o, h.row.alloc o, h.ne, h.inv⟩
theorem Lg.drew {w : World} (h : Lg w p b g l) : Lg w.drew p b g l := ⟨h.blk.drew, h.row.drew, h.ne, h.inv⟩
theorem Lg.off {w w' : World} {c : Nat} (h : Lg w p b g l) (ho : Off c w w') (h1 : p ≠ c) (h2 : b ≠ c) : Lg w' p b g l := ⟨h.blk.off ho h1, h.row.off ho h2, h.ne, h.inv⟩
theorem Lg.num {w : World} (h : Lg w p b g l) {i : Nat} (j : Nat) (hi : i < l.length) (hj : j < 11) : w.cell? ⟨b, i * 12 + j, none⟩ = some (.int .i64 ((kAt l i).n j)) := h.row.cell (kC_get j hi (Kt.num _ j hj))
theorem Lg.rep {w : World} (h : Lg w p b g l) {i : Nat} (hi : i < l.length) : w.cell? ⟨b, i * 12 + 11, none⟩ = some (.string (kAt l i).reply) := h.row.cell (kC_get 11 hi rfl)
theorem Lg.num0 {w : World} (h : Lg w p b g l) {i : Nat} (hi : i < l.length) : w.cell? ⟨b, i * 12, none⟩ = some (.int .i64 ((kAt l i).n 0)) := h.num 0 hi (by omega)
/-- One number written. -/
theorem Lg.set {w : World} (h : Lg w p b g l) {i j : Nat} (v : Int) (hi : i < l.length) (hj : j < 11) (hv : Inv g (upd l i j v)) : Lg (w.setCell ⟨b, i * 12 + j, none⟩ (.int .i64 v)) p b g (upd l i j v) := by
  refine ⟨?_, ?_, h.ne, hv⟩
  · have := h.blk.setOther (p := ⟨b, i * 12 + j, none⟩) h.ne (.int .i64 v)
    rw [upd_len]; exact this
  · have := h.row.set (i * 12 + j) (.int .i64 v)
    rw [kC_upd v hi hj] at this
    exact this

theorem made_calls (w : World) (h : Lg w p b g l) : Calls Tryd.prog 36 #[.pointer (some ⟨p, 0, none⟩)] w fun e w' => e = .returned (.bool true) ∧ w' = w := by
  have c0 : w.cell? ⟨p, 0, none⟩ = some (.slice (some ⟨b, 0, none⟩) l.length l.length) := h.blk.cell rfl
  have hp := h.inv.pos
  go_enter Tryd.func36, Tryd.ntmps36
  go_wp2
  go_ret
  exact ⟨by simp [hp], rfl⟩

theorem has_calls (w : World) (h : Lg w p b g l) (z : Int) : Calls Tryd.prog 55 #[.pointer (some ⟨p, 0, none⟩), .int .i64 z] w fun e w' => e = .returned (.bool (decide (0 ≤ z ∧ z < l.length))) ∧ w' = w := by
  have c0 : w.cell? ⟨p, 0, none⟩ = some (.slice (some ⟨b, 0, none⟩) l.length l.length) := h.blk.cell rfl
  have hp := h.inv.pos
  by_cases h0 : 0 ≤ z
  · go_enter Tryd.func55, Tryd.ntmps55
    go_wp2
    go_ret
    exact ⟨by simp [h0], rfl⟩
  · have h1 : decide (0 ≤ z) = false := by simpa using h0
    go_enter Tryd.func55, Tryd.ntmps55
    go_wp2
    go_ret
    exact ⟨by simp [h1], rfl⟩

/-- Numbers in a slice of their own. -/
def Nms (w : World) (q : Nat) (m : List Int) : Prop := ∀ i (h : i < m.length), w.cell? ⟨q, i, none⟩ = some (.int .i64 m[i])
theorem all_take (m : List Int) (f : Int → Bool) (k : Nat) (h : k < m.length) : (m.take (k + 1)).all f = ((m.take k).all f && f m[k]) := by
  rw [List.take_succ_eq_append_getElem h, List.all_append]; simp

set_option maxRecDepth 100000 in
theorem refuse_calls (w : World) (h : Lg w p b g l) (n : Int) (q : Nat) (m : List Int) (c : Nat) (hm : Nms w q m) (hz : m.length < 1000) (hc : m.length ≤ c) :
    Calls Tryd.prog 53 #[.pointer (some ⟨p, 0, none⟩), .int .i64 n, .slice (some ⟨q, 0, none⟩) m.length c] w fun e w' => e = .returned (.int .i64 (refE l.length n m)) ∧ w' = w := by
  have hma := made_calls w h
  have HH : Hid _ := fun z => has_calls w h z
  have HM : Hid _ := hm
  clear hm
  go_enter Tryd.func53, Tryd.ntmps53
  go_wp2_with fail
  refine hma.mono ?_
  rintro e w1 ⟨rfl, rfl⟩
  go_wp2
  go_loopw [14] (fun i wr => ∃ k : Nat, k ≤ m.length ∧ i = .int .i64 k ∧ (m.take k).all (fun z => decide (0 ≤ z ∧ z < l.length)) = true ∧ wr = w1) (fun i _ => m.length - (intOf i).toNat)
  case atStart => exact ⟨0, Nat.zero_le _, rfl, rfl, rfl⟩
  case round =>
    obtain ⟨k, hk, rfl, hal, rfl⟩ := hrel
    by_cases hlt : k < m.length
    · have hd : decide ((k : Int) < m.length) = true := by simp only [decide_eq_true_eq]; omega
      have c1 := HM.out k hlt
      have ht := all_take m (fun z => decide (0 ≤ z ∧ z < l.length)) k hlt
      rw [hal] at ht
      have hcl := HH.out m[k]
      obtain ⟨z, hZ⟩ : ∃ z, m[k] = z := ⟨_, rfl⟩
      rw [hZ] at ht c1 hcl
      have HT : Hid _ := ht
      clear ht
      cases hq : decide (0 ≤ z ∧ z < (l.length : Int))
      · rw [hq] at hcl
        go_wp2_with fail
        refine hcl.mono ?_
        rintro e w2 ⟨rfl, rfl⟩
        go_wp2
        go_ret
        refine ⟨?_, rfl⟩
        have h2 := HT.out
        rw [hq] at h2
        have : m.all (fun z => decide (0 ≤ z ∧ z < l.length)) = false := by
          cases hm : m.all (fun z => decide (0 ≤ z ∧ z < l.length))
          · rfl
          · have := List.all_eq_true.1 hm z (by rw [← hZ]; exact List.getElem_mem _)
            rw [hq] at this; cases this
        unfold refE
        rw [if_pos this]
        rfl
      · rw [hq] at hcl
        go_wp2_with fail
        refine hcl.mono ?_
        rintro e w2 ⟨rfl, rfl⟩
        go_wp2
        refine ⟨⟨k + 1, by omega, by norm_cast, ?_, trivial⟩, ?_⟩
        · rw [HT.out, hq]; rfl
        · simp [intOf]; omega
    · have hd : decide ((k : Int) < m.length) = false := by simp only [decide_eq_false_iff_not]; omega
      have htk : m.take k = m := List.take_of_length_le (by omega)
      rw [htk] at hal
      have he : refE l.length n m = if n < 1 ∨ 1099511627776 < n then 1 else 0 := by unfold refE; rw [if_neg (by rw [hal]; decide)]
      have HE : Hid _ := he
      clear he
      by_cases h1 : n < 1
      · go_wp2
        go_ret
        exact ⟨by rw [HE.out, if_pos (Or.inl h1)]; rfl, rfl⟩
      · have d1 : decide (n < 1) = false := decide_eq_false h1
        by_cases h2 : 1099511627776 < n
        · go_wp2
          go_ret
          exact ⟨by rw [HE.out, if_pos (Or.inr h2)]; rfl, rfl⟩
        · have d2 : decide (1099511627776 < n) = false := decide_eq_false h2
          go_wp2
          go_ret
          exact ⟨by rw [HE.out, if_neg (by omega)]; rfl, rfl⟩

end Go.Proofs.YtmcafgmjfgfaeaaDoor
