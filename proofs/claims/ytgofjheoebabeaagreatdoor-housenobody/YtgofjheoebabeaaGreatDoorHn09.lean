/- What each call leaves is a ledger's. No program is named here. -/
import Derived.Test.YtgofjheoebabeaaGreatDoorHn08
import Derived.Test.YtgofjheoebabeaaGreatDoorHn01
import Derived.Test.YtgofjheoebabeaaGreatDoorRows
import Derived.Deep.QuietTactic
import Derived.BigQuiet
namespace Go.Proofs.YtgofjheoebabeaaGreatDoor.Led
open Go.RowKit
set_option linter.unusedSimpArgs false
set_option linter.unusedVariables false
variable {g : Nat} {l : List Kt}
theorem partG (q : Nat) (h : q < 4) : Part (2 + q) (6 + q) := Or.inr ⟨by omega, by omega, by omega⟩
theorem Part.lt {a h : Nat} (p : Part a h) : a < 10 ∧ h < 10 := by rcases p with ⟨rfl, rfl⟩ | ⟨_, _, rfl⟩ <;> omega
theorem Part.one {a h a' h' : Nat} (p : Part a h) (p' : Part a' h') (e : a = a') : h = h' := by
  rcases p with ⟨rfl, rfl⟩ | ⟨_, _, rfl⟩ <;> rcases p' with ⟨rfl, rfl⟩ | ⟨_, _, rfl⟩ <;> omega
theorem Part.two {a h a' h' : Nat} (p : Part a h) (p' : Part a' h') (e : h = h') : a = a' := by
  rcases p with ⟨rfl, rfl⟩ | ⟨_, _, rfl⟩ <;> rcases p' with ⟨rfl, rfl⟩ | ⟨_, _, rfl⟩ <;> omega
theorem Part.ne {a h a' h' : Nat} (p : Part a h) (p' : Part a' h') : a ≠ h' := by
  rcases p with ⟨rfl, rfl⟩ | ⟨_, _, rfl⟩ <;> rcases p' with ⟨rfl, rfl⟩ | ⟨_, _, rfl⟩ <;> omega
theorem Inv.addA (H : Inv g l) {a h i : Nat} {n : Int} (p : Part a h) (ha : a < g + 2) (hi : i < l.length) (hn : 0 ≤ n) (ht : tot l a + n ≤ 1099511627776) : Inv g (upd l i a ((kAt l i).n a + n)) := by
  refine H.updI hi p.lt.1 ?_ ?_ ?_ ?_
  · intro a' h' p' e
    have := p.one p' e
    subst e this
    have := H.held i hi a h p; omega
  · intro a' h' p' e; exact absurd e (p.ne p')
  · intro a' h' p' e; subst e; omega
  · intro h1 h2; omega
theorem Inv.subA (H : Inv g l) {a h i : Nat} {n : Int} (p : Part a h) (ha : a < g + 2) (hi : i < l.length) (hn : 0 ≤ n) (ht : n ≤ (kAt l i).n a - (kAt l i).n h) : Inv g (upd l i a ((kAt l i).n a - n)) := by
  refine H.updI hi p.lt.1 ?_ ?_ ?_ ?_
  · intro a' h' p' e
    have := p.one p' e
    subst e this
    omega
  · intro a' h' p' e; exact absurd e (p.ne p')
  · intro a' h' p' e; subst e
    have := H.all a h' p'; omega
  · intro h1 h2; omega
theorem Inv.setH (H : Inv g l) {a h i : Nat} {v : Int} (p : Part a h) (hi : i < l.length) (h0 : 0 ≤ v) (h1 : v ≤ (kAt l i).n a) : Inv g (upd l i h v) := by
  refine H.updI hi p.lt.2 ?_ ?_ ?_ ?_
  · intro a' h' p' e; exact absurd e.symm (p'.ne p)
  · intro a' h' p' e
    have := p.two p' e
    subst e this
    exact ⟨h0, h1⟩
  · intro a' h' p' e; exact absurd e.symm (p'.ne p)
  · intro h1 h2; rcases p with ⟨rfl, rfl⟩ | ⟨_, _, rfl⟩ <;> omega

/-- What is held of the one goes over to the other one, free: three steps, each of which leaves a ledger. -/
theorem Inv.ov1 (H : Inv g l) {a h i : Nat} {n : Int} (p : Part a h) (hi : i < l.length) (hn : 0 ≤ n) (ht : n ≤ (kAt l i).n h) : Inv g (over1 l i h n) := by
  have := H.held i hi a h p
  exact H.setH p hi (by omega) (by omega)
theorem over1_a {a h i j : Nat} {n : Int} (p : Part a h) (hi : i < l.length) : (kAt (over1 l i h n) j).n a = (kAt l j).n a := by
  unfold over1; rw [upd_at _ _ hi, if_neg (fun e => p.ne p e.2)]
theorem over1_h {a h i : Nat} {n : Int} (p : Part a h) (hi : i < l.length) : (kAt (over1 l i h n) i).n h = (kAt l i).n h - n := by
  unfold over1; rw [upd_at _ _ hi, if_pos ⟨rfl, rfl⟩]
theorem Inv.ov2 (H : Inv g l) {a h i : Nat} {n : Int} (p : Part a h) (ha : a < g + 2) (hi : i < l.length) (hn : 0 ≤ n) (ht : n ≤ (kAt l i).n h) : Inv g (over2 l i a h n) := by
  refine (H.ov1 p hi hn ht).subA p ha (by unfold over1; rw [upd_len]; exact hi) hn ?_
  rw [over1_a p hi, over1_h p hi]
  have := H.held i hi a h p; omega
theorem over2_len {a h i : Nat} {n : Int} : (over2 l i a h n).length = l.length := by unfold over2 over1; rw [upd_len, upd_len]
theorem over1_len {h i : Nat} {n : Int} : (over1 l i h n).length = l.length := by unfold over1; rw [upd_len]
theorem over3_len {a h i j : Nat} {n : Int} : (over3 l i j a h n).length = l.length := by unfold over3; rw [upd_len, over2_len]
theorem over2_tot {a h i : Nat} {n : Int} (p : Part a h) (hi : i < l.length) (x : Nat) : tot (over2 l i a h n) x = tot l x - (if x = h then n else 0) - (if x = a then n else 0) := by
  unfold over2
  rw [tot_upd _ _ _ (by rw [over1_len]; exact hi)]
  unfold over1
  rw [tot_upd _ _ _ hi]
  have hne := p.ne p
  by_cases h1 : x = a
  · subst h1; simp [hne]; omega
  · by_cases h2 : x = h
    · subst h2; simp [h1]; omega
    · simp [h1, h2]
theorem Inv.ov3 (H : Inv g l) {a h i j : Nat} {n : Int} (p : Part a h) (ha : a < g + 2) (hi : i < l.length) (hj : j < l.length) (hn : 0 ≤ n) (ht : n ≤ (kAt l i).n h) : Inv g (over3 l i j a h n) := by
  refine (H.ov2 p ha hi hn ht).addA p ha (by rw [over2_len]; exact hj) hn ?_
  rw [over2_tot p hi]
  have h1 := H.all a h p
  have hne := p.ne p
  simp [hne]; omega

theorem refE_one {c : Nat} {n z : Int} (h : refE c n [z] = 0) : ∃ i : Nat, z = i ∧ i < c ∧ 1 ≤ n ∧ n ≤ 1099511627776 := by
  unfold refE at h
  split at h
  · cases h
  · next h1 =>
    split at h
    · cases h
    · next h2 =>
      simp at h1
      exact ⟨z.toNat, by omega, by omega, by omega, by omega⟩
theorem refE_two {c : Nat} {n z y : Int} (h : refE c n [z, y] = 0) : ∃ i j : Nat, z = i ∧ y = j ∧ i < c ∧ j < c ∧ 1 ≤ n ∧ n ≤ 1099511627776 := by
  unfold refE at h
  split at h
  · cases h
  · next h1 =>
    split at h
    · cases h
    · next h2 =>
      simp at h1
      exact ⟨z.toNat, y.toNat, by omega, by omega, by omega, by omega, by omega, by omega⟩
theorem refG_ok {g c : Nat} {good n : Int} {m : List Int} (h : refG g c good n m = 0) : refE c n m = 0 ∧ ∃ q : Nat, good = q ∧ q < g := by
  unfold refG at h
  split at h
  · next h1 =>
    split at h
    · cases h
    · exact ⟨h1, good.toNat, by omega, by omega⟩
  · next h1 => exact absurd h h1
end Go.Proofs.YtgofjheoebabeaaGreatDoor.Led

namespace Go.Proofs.YtgofjheoebabeaaGreatDoor.Led
open Go.RowKit
set_option linter.unusedSimpArgs false
set_option linter.unusedVariables false
theorem gate_len {e : Int} {l : List Kt} {r : Int × List Kt} (h : r.2.length = l.length) : (gate e l r).2.length = l.length := by
  unfold gate; split
  · exact h
  · rfl
theorem act_len (g : Nat) (l : List Kt) (a : Ac) : (act g l a).2.length = l.length := by
  unfold act
  split
  all_goals first | (refine gate_len ?_) | skip
  all_goals first | unfold inR | unfold outR | unfold keepR | unfold looseR | unfold overR | unfold markR
  all_goals (repeat' split)
  all_goals first | rfl | exact upd_len _ _ _ _ | exact over3_len | exact markL_len _ _ _ _
theorem foldl_len (g : Nat) (ls : List Ac) (l : List Kt) : (ls.foldl (fun l a => (act g l a).2) l).length = l.length := by
  induction ls generalizing l with
  | nil => rfl
  | cons a ls ih => rw [List.foldl_cons, ih, act_len]
end Go.Proofs.YtgofjheoebabeaaGreatDoor.Led

namespace Go.Proofs.YtgofjheoebabeaaGreatDoor.Led
open Go.RowKit
set_option linter.unusedSimpArgs false
set_option linter.unusedVariables false

/-- A ledger: its block, its clients' block. -/
structure Lg (w : World) (p b g : Nat) (l : List Kt) : Prop where
  blk : Blk w p #[.slice (some ⟨b, 0, none⟩) l.length l.length, .int .i64 g] 87
  row : Blk w b (kC l) 84
  ne : p ≠ b
  inv : Inv g l
variable {p b g : Nat} {l : List Kt}
theorem Lg.below {w w' : World} (h : Lg w p b g l) (hb : Below w.heap.size w w') : Lg w' p b g l := ⟨h.blk.below hb, h.row.below hb, h.ne, h.inv⟩
theorem Lg.alloc {w : World} (h : Lg w p b g l) (o : Obj) : Lg (w.alloc o) p b g l := ⟨h.blk.alloc o, h.row.alloc o, h.ne, h.inv⟩
theorem Lg.drew {w : World} (h : Lg w p b g l) : Lg w.drew p b g l := ⟨h.blk.drew, h.row.drew, h.ne, h.inv⟩
theorem Lg.off {w w' : World} {c : Nat} (h : Lg w p b g l) (ho : Off c w w') (h1 : p ≠ c) (h2 : b ≠ c) : Lg w' p b g l := ⟨h.blk.off ho h1, h.row.off ho h2, h.ne, h.inv⟩
theorem Lg.num {w : World} (h : Lg w p b g l) {i : Nat} (j : Nat) (hi : i < l.length) (hj : j < 11) : w.cell? ⟨b, i * 12 + j, none⟩ = some (.int .i64 ((kAt l i).n j)) := h.row.cell (kC_get j hi (Kt.num _ j hj))
theorem Lg.rep {w : World} (h : Lg w p b g l) {i : Nat} (hi : i < l.length) : w.cell? ⟨b, i * 12 + 11, none⟩ = some (.string (kAt l i).reply) := h.row.cell (kC_get 11 hi rfl)
theorem Lg.num0 {w : World} (h : Lg w p b g l) {i : Nat} (hi : i < l.length) : w.cell? ⟨b, i * 12, none⟩ = some (.int .i64 ((kAt l i).n 0)) := h.num 0 hi (by omega)
/-- One number written. -/
theorem Lg.set {w : World} (h : Lg w p b g l) {i j : Nat} (v : Int) (hi : i < l.length) (hj : j < 11) (hv : Inv g (upd l i j v)) : Lg (w.setCell ⟨b, i * 12 + j, none⟩ (.int .i64 v)) p b g (upd l i j v) := by
  refine ⟨?_, ?_, h.ne, hv⟩
  · have := h.blk.setOther (p := ⟨b, i * 12 + j, none⟩) h.ne (.int .i64 v)
    rw [upd_len]; exact this
  · have := h.row.set (i * 12 + j) (.int .i64 v)
    rw [kC_upd v hi hj] at this
    exact this

theorem made_calls (w : World) (h : Lg w p b g l) : Calls Tryz.prog 34 #[.pointer (some ⟨p, 0, none⟩)] w fun e w' => e = .returned (.bool true) ∧ w' = w := by
  have c0 : w.cell? ⟨p, 0, none⟩ = some (.slice (some ⟨b, 0, none⟩) l.length l.length) := h.blk.cell rfl
  have hp := h.inv.pos
  go_enter Tryz.func34, Tryz.ntmps34
  go_wp2
  go_ret
  exact ⟨by simp [hp], rfl⟩

theorem has_calls (w : World) (h : Lg w p b g l) (z : Int) : Calls Tryz.prog 35 #[.pointer (some ⟨p, 0, none⟩), .int .i64 z] w fun e w' => e = .returned (.bool (decide (0 ≤ z ∧ z < l.length))) ∧ w' = w := by
  have c0 : w.cell? ⟨p, 0, none⟩ = some (.slice (some ⟨b, 0, none⟩) l.length l.length) := h.blk.cell rfl
  have hp := h.inv.pos
  by_cases h0 : 0 ≤ z
  · go_enter Tryz.func35, Tryz.ntmps35
    go_wp2
    go_ret
    exact ⟨by simp [h0], rfl⟩
  · have h1 : decide (0 ≤ z) = false := by simpa using h0
    go_enter Tryz.func35, Tryz.ntmps35
    go_wp2
    go_ret
    exact ⟨by simp [h1], rfl⟩

/-- Numbers in a slice of their own. -/
def Nms (w : World) (q : Nat) (m : List Int) : Prop := ∀ i (h : i < m.length), w.cell? ⟨q, i, none⟩ = some (.int .i64 m[i])
theorem all_take (m : List Int) (f : Int → Bool) (k : Nat) (h : k < m.length) : (m.take (k + 1)).all f = ((m.take k).all f && f m[k]) := by
  rw [List.take_succ_eq_append_getElem h, List.all_append]; simp

set_option maxRecDepth 100000 in
theorem refuse_calls (w : World) (h : Lg w p b g l) (n : Int) (q : Nat) (m : List Int) (c : Nat) (hm : Nms w q m) (hz : m.length < 1000) (hc : m.length ≤ c) :
    Calls Tryz.prog 107 #[.pointer (some ⟨p, 0, none⟩), .int .i64 n, .slice (some ⟨q, 0, none⟩) m.length c] w fun e w' => e = .returned (.int .i64 (refE l.length n m)) ∧ w' = w := by
  have hma := made_calls w h
  have HH : Hid _ := fun z => has_calls w h z
  have HM : Hid _ := hm
  clear hm
  go_enter Tryz.func107, Tryz.ntmps107
  go_wp2_with fail
  refine hma.mono ?_
  rintro e w1 ⟨rfl, rfl⟩
  go_wp2
  go_loopw [14] (fun i wr => ∃ k : Nat, k ≤ m.length ∧ i = .int .i64 k ∧ (m.take k).all (fun z => decide (0 ≤ z ∧ z < l.length)) = true ∧ wr = w1) (fun i _ => m.length - (intOf i).toNat)
  case atStart => exact ⟨0, Nat.zero_le _, rfl, rfl, rfl⟩
  case round =>
    obtain ⟨k, hk, rfl, hal, rfl⟩ := hrel
    by_cases hlt : k < m.length
    · have hd : decide ((k : Int) < m.length) = true := by simp only [decide_eq_true_eq]; omega
      have c1 := HM.out k hlt
      have ht := all_take m (fun z => decide (0 ≤ z ∧ z < l.length)) k hlt
      rw [hal] at ht
      have hcl := HH.out m[k]
      obtain ⟨z, hZ⟩ : ∃ z, m[k] = z := ⟨_, rfl⟩
      rw [hZ] at ht c1 hcl
      have HT : Hid _ := ht
      clear ht
      cases hq : decide (0 ≤ z ∧ z < (l.length : Int))
      · rw [hq] at hcl
        go_wp2_with fail
        refine hcl.mono ?_
        rintro e w2 ⟨rfl, rfl⟩
        go_wp2
        go_ret
        refine ⟨?_, rfl⟩
        have h2 := HT.out
        rw [hq] at h2
        have : m.all (fun z => decide (0 ≤ z ∧ z < l.length)) = false := by
          cases hm : m.all (fun z => decide (0 ≤ z ∧ z < l.length))
          · rfl
          · have := List.all_eq_true.1 hm z (by rw [← hZ]; exact List.getElem_mem _)
            rw [hq] at this; cases this
        unfold refE
        rw [if_pos this]
        rfl
      · rw [hq] at hcl
        go_wp2_with fail
        refine hcl.mono ?_
        rintro e w2 ⟨rfl, rfl⟩
        go_wp2
        refine ⟨⟨k + 1, by omega, by norm_cast, ?_, trivial⟩, ?_⟩
        · rw [HT.out, hq]; rfl
        · simp [intOf]; omega
    · have hd : decide ((k : Int) < m.length) = false := by simp only [decide_eq_false_iff_not]; omega
      have htk : m.take k = m := List.take_of_length_le (by omega)
      rw [htk] at hal
      have he : refE l.length n m = if n < 1 ∨ 1099511627776 < n then 1 else 0 := by unfold refE; rw [if_neg (by rw [hal]; decide)]
      have HE : Hid _ := he
      clear he
      by_cases h1 : n < 1
      · go_wp2
        go_ret
        exact ⟨by rw [HE.out, if_pos (Or.inl h1)]; rfl, rfl⟩
      · have d1 : decide (n < 1) = false := decide_eq_false h1
        by_cases h2 : 1099511627776 < n
        · go_wp2
          go_ret
          exact ⟨by rw [HE.out, if_pos (Or.inr h2)]; rfl, rfl⟩
        · have d2 : decide (1099511627776 < n) = false := decide_eq_false h2
          go_wp2
          go_ret
          exact ⟨by rw [HE.out, if_neg (by omega)]; rfl, rfl⟩

set_option maxRecDepth 100000 in
theorem refuseGood_calls (w : World) (h : Lg w p b g l) (good n : Int) (q : Nat) (m : List Int) (c : Nat) (hm : Nms w q m) (hz : m.length < 1000) (hc : m.length ≤ c) :
    Calls Tryz.prog 108 #[.pointer (some ⟨p, 0, none⟩), .int .i64 good, .int .i64 n, .slice (some ⟨q, 0, none⟩) m.length c] w fun e w' => e = .returned (.int .i64 (refG g l.length good n m)) ∧ w' = w := by
  have hr := refuse_calls w h n q m c hm hz hc
  have c0 : w.cell? ⟨p, 1, none⟩ = some (.int .i64 g) := h.blk.cell rfl
  unfold refG
  generalize refE l.length n m = r at *
  by_cases h0 : r = 0
  · subst h0
    rw [if_pos rfl]
    by_cases h1 : good < 0
    · rw [if_pos (Or.inl h1)]
      go_enter Tryz.func108, Tryz.ntmps108
      go_wp2_with fail
      refine hr.mono ?_
      rintro e w1 ⟨rfl, rfl⟩
      go_wp2
      go_ret
      exact ⟨rfl, rfl⟩
    · have d1 : decide (good < 0) = false := decide_eq_false h1
      by_cases h2 : (g : Int) ≤ good
      · rw [if_pos (Or.inr h2)]
        go_enter Tryz.func108, Tryz.ntmps108
        go_wp2_with fail
        refine hr.mono ?_
        rintro e w1 ⟨rfl, rfl⟩
        go_wp2
        go_ret
        exact ⟨rfl, rfl⟩
      · have d2 : decide ((g : Int) ≤ good) = false := decide_eq_false h2
        rw [if_neg (by omega)]
        go_enter Tryz.func108, Tryz.ntmps108
        go_wp2_with fail
        refine hr.mono ?_
        rintro e w1 ⟨rfl, rfl⟩
        go_wp2
        go_ret
        exact ⟨rfl, rfl⟩
  · rw [if_neg h0]
    have hb0 : (r == 0) = false := by simpa using h0
    go_enter Tryz.func108, Tryz.ntmps108
    go_wp2_with fail
    refine hr.mono ?_
    rintro e w1 ⟨rfl, rfl⟩
    go_wp2
    go_ret
    exact ⟨rfl, rfl⟩
end Go.Proofs.YtgofjheoebabeaaGreatDoor.Led

namespace Go.Proofs.YtgofjheoebabeaaGreatDoor.Led
open Go.RowKit
set_option linter.unusedSimpArgs false
set_option linter.unusedVariables false
variable {p b g : Nat} {l : List Kt}
theorem nms_one (w : World) (z : Int) : ∃ W1, (w.alloc (.cells #[.int .i64 z] 3)) = W1 ∧ Nms W1 w.heap.size [z] ∧ Below w.heap.size w W1 ∧ W1.heap.size = w.heap.size + 1 :=
  ⟨_, rfl, fun i hi => by
    have : i = 0 := by simp at hi; omega
    subst this
    exact (blk_new w w.heap.size #[.int .i64 z] 3 rfl).cell rfl, by go_grown, by simp⟩
theorem nms_two (w : World) (z y : Int) : ∃ W1, (w.alloc (.cells #[.int .i64 z, .int .i64 y] 3)) = W1 ∧ Nms W1 w.heap.size [z, y] ∧ Below w.heap.size w W1 ∧ W1.heap.size = w.heap.size + 1 :=
  ⟨_, rfl, fun i hi => by
    have : i = 0 ∨ i = 1 := by simp at hi; omega
    rcases this with rfl | rfl
    · exact (blk_new w w.heap.size #[.int .i64 z, .int .i64 y] 3 rfl).cell rfl
    · exact (blk_new w w.heap.size #[.int .i64 z, .int .i64 y] 3 rfl).cell rfl, by go_grown, by simp⟩
theorem Lg.numG {w : World} (h : Lg w p b g l) {i q : Nat} (hi : i < l.length) (hq : q < 4) : w.cell? ⟨b, i * 12 + 2 + q, none⟩ = some (.int .i64 ((kAt l i).n (2 + q))) := by
  have := h.num (2 + q) hi (by omega)
  rw [← Nat.add_assoc] at this
  exact this
theorem Lg.numL {w : World} (h : Lg w p b g l) {i q : Nat} (hi : i < l.length) (hq : q < 4) : w.cell? ⟨b, i * 12 + 6 + q, none⟩ = some (.int .i64 ((kAt l i).n (6 + q))) := by
  have := h.num (6 + q) hi (by omega)
  rw [← Nat.add_assoc] at this
  exact this
theorem Lg.set0 {w : World} (h : Lg w p b g l) {i : Nat} (v : Int) (hi : i < l.length) (hv : Inv g (upd l i 0 v)) : Lg (w.setCell ⟨b, i * 12, none⟩ (.int .i64 v)) p b g (upd l i 0 v) := h.set (j := 0) v hi (by omega) hv
theorem Lg.setG {w : World} (h : Lg w p b g l) {i q : Nat} (v : Int) (hi : i < l.length) (hq : q < 4) (hv : Inv g (upd l i (2 + q) v)) : Lg (w.setCell ⟨b, i * 12 + 2 + q, none⟩ (.int .i64 v)) p b g (upd l i (2 + q) v) := by
  have := h.set (j := 2 + q) v hi (by omega) hv
  rw [← Nat.add_assoc] at this
  exact this
theorem Lg.setL {w : World} (h : Lg w p b g l) {i q : Nat} (v : Int) (hi : i < l.length) (hq : q < 4) (hv : Inv g (upd l i (6 + q) v)) : Lg (w.setCell ⟨b, i * 12 + 6 + q, none⟩ (.int .i64 v)) p b g (upd l i (6 + q) v) := by
  have := h.set (j := 6 + q) v hi (by omega) hv
  rw [← Nat.add_assoc] at this
  exact this
theorem drewN_below (B : Nat) (w : World) (n : Nat) : Below B w (w.drewN n) := ⟨rfl, rfl, rfl, Nat.le_refl _, fun _ _ => rfl⟩
end Go.Proofs.YtgofjheoebabeaaGreatDoor.Led
