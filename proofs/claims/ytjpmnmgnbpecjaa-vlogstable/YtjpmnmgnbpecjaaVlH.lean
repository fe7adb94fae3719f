/- A vote is noted in a log; what stands at a number is proved. -/
import Derived.Test.YtjpmnmgnbpecjaaVlG
namespace Go.Proofs.Ytjpmnmgnbpecjaa
open Go.Shelf Go.RowKit Go.Lib Go.Sort
open Go.ChangeMaps (setBlock)
set_option linter.unusedSimpArgs false
set_option linter.unusedVariables false

variable {w : World} {p : Nat} {mp : Nat → Option Nat} {L : Lv}
theorem heap_setCell_eq {w w2 : World} {p c : Nat} {cs : Array Value} {t : TypeId} (hB : Blk w p cs t) (h : w2.heap[p]? = w.heap[p]?) (v : Value) : (w2.setCell ⟨p, c, none⟩ v).heap[p]? = (w.setCell ⟨p, c, none⟩ v).heap[p]? := by
  have h2 : Blk w2 p cs t := h.trans hB
  have e1 := h2.set c v
  have e2 := hB.set c v
  unfold Blk at e1 e2
  rw [e1, e2]
theorem note_calls (h : Lg w p mp L) {j : Nat} (hj : j < 17) (m0 : Int) (m1 m2 : ByteArray) (c0 : Int) (c1 : ByteArray) (hz1 : m1.size ≤ 281474976710656) (hz2 : m2.size ≤ 281474976710656) :
    Calls Try.prog 48 #[.pointer (some ⟨p, cellOf j, none⟩), .agg #[.int .i64 m0, .string m1, .string m2], .agg #[.int .i64 c0, .string c1]] w fun e w' => e = .returned (.tuple #[]) ∧ ∃ mp', Lg w' p mp' (L.setv j (vput (L.vts j) m0 (c0, c1, (m0, m1, m2)))) ∧ Stp p mp w mp' w' := by
  have hc := h.mcell hj
  have hm := h.maps j hj
  cases hmp : mp j with
  | some b =>
    rw [hmp] at hc hm
    refine (note_some w p (cellOf j) b (L.vts j) m0 m1 m2 c0 c1 hz1 hz2 hc hm (fun e => h.pmap hj hmp e.symm)).mono ?_
    rintro e w' ⟨rfl, h1, h2, h3, h4, h5, h6⟩
    exact ⟨rfl, mp, h.put_old hj hmp _ h1 h2, h4, h5, h6, h3, fun k hk hp hn => h2 k hk (fun e => hn j hj (e ▸ hmp)), fun i b' hi hb' => Or.inl ⟨i, hi, hb'⟩⟩
  | none =>
    rw [hmp] at hc hm
    have hl : L.vts j = [] := hm
    rw [hl]
    refine (note_none w p (cellOf j) m0 m1 m2 c0 c1 hz1 hz2 hc (h.fr _)).mono ?_
    rintro e w' ⟨rfl, b, hb, h1, h2, ⟨wx, hx1, hx2⟩, h3, h4, h5, h6⟩
    obtain ⟨cs, hB, _⟩ := h.blk
    refine ⟨rfl, _, h.put_new hj hmp hb _ h1 h2 (hx2.trans (heap_setCell_eq hB hx1 _)), h4, h5, h6, h3, fun k hk hp _ => h2 k hk hp, fun i b' hi hb' => ?_⟩
    by_cases e : i = j
    · rw [if_pos e] at hb'
      simp at hb'
      exact Or.inr (by omega)
    · rw [if_neg e] at hb'
      exact Or.inl ⟨i, hi, hb'⟩
set_option maxHeartbeats 16000000 in
set_option maxRecDepth 100000 in
theorem proveA {o : Nat} {V FV FQ : Int} {R : World → Prop} (c1 : w.cell? ⟨p, 1, none⟩ = some (.int .i64 V)) (c6 : w.cell? ⟨p, o + 6, none⟩ = some (.int .i64 FV)) (c7 : w.cell? ⟨p, o + 7, none⟩ = some (.int .i64 FQ)) (h1 : 0 < FQ) (h2 : FV = V) (HF : Hid (∀ wx, Below w.heap.size w wx → R wx)) :
    Calls Try.prog 45 #[.pointer (some ⟨p, 0, none⟩), .pointer (some ⟨p, o, none⟩)] w fun e w' => e = .returned (.tuple #[]) ∧ R w' := by
  have d1 : decide (0 < FQ) = true := decide_eq_true h1
  subst h2
  clear h1
  go_enter Try.func45, Try.ntmps45
  go_wp2_with fail
  go_quiet (fail)
  go_wp2
  (try simp only [Exit.inBlock, Exit.then])
  first | (refine bodyPost_ret (results_none rfl _ _ _) rfl ?_) | go_end0
  exact ⟨rfl, HF.out _ (by first | exact below_drewN _ _ | exact (Below.refl _ _).drew | (refine ⟨rfl, rfl, rfl, Nat.le_refl _, fun _ _ => rfl⟩))⟩
set_option maxHeartbeats 16000000 in
set_option maxRecDepth 100000 in
theorem proveB1 {o : Nat} {V FV FQ : Int} {R : World → Prop} (c1 : w.cell? ⟨p, 1, none⟩ = some (.int .i64 V)) (c6 : w.cell? ⟨p, o + 6, none⟩ = some (.int .i64 FV)) (c7 : w.cell? ⟨p, o + 7, none⟩ = some (.int .i64 FQ)) (h1 : ¬ 0 < FQ) (HP : Hid (∀ wx, Below w.heap.size w wx → Calls Try.prog 34 #[.pointer (some ⟨p, 0, none⟩), .pointer (some ⟨p, o, none⟩)] wx fun e w' => e = .returned (.bool false) ∧ Below wx.heap.size wx w')) (HF : Hid (∀ wx, Below w.heap.size w wx → R wx)) :
    Calls Try.prog 45 #[.pointer (some ⟨p, 0, none⟩), .pointer (some ⟨p, o, none⟩)] w fun e w' => e = .returned (.tuple #[]) ∧ R w' := by
  have d1 : decide (0 < FQ) = false := decide_eq_false h1
  clear h1
  go_enter Try.func45, Try.ntmps45
  go_wp2_with fail
  go_quiet (fail)
  go_wp2_with fail
  refine (HP.out _ (by first | exact below_drewN _ _ | exact (Below.refl _ _).drew | (refine ⟨rfl, rfl, rfl, Nat.le_refl _, fun _ _ => rfl⟩))).mono ?_
  rintro e w1 ⟨rfl, hb1⟩
  have b1 : Below w.heap.size w w1 := by
    refine Below.trans (?_ : Below w.heap.size w _) hb1
    first | exact below_drewN _ _ | exact (Below.refl _ _).drew | (refine ⟨rfl, rfl, rfl, Nat.le_refl _, fun _ _ => rfl⟩)
  clear hb1
  go_wp2
  (try simp only [Exit.inBlock, Exit.then])
  first | (refine bodyPost_ret (results_none rfl _ _ _) rfl ?_) | go_end0
  exact ⟨rfl, HF.out _ b1⟩
set_option maxHeartbeats 16000000 in
set_option maxRecDepth 100000 in
theorem proveB2 {o : Nat} {V FV FQ : Int} {R : World → Prop} (c1 : w.cell? ⟨p, 1, none⟩ = some (.int .i64 V)) (c6 : w.cell? ⟨p, o + 6, none⟩ = some (.int .i64 FV)) (c7 : w.cell? ⟨p, o + 7, none⟩ = some (.int .i64 FQ)) (h1 : 0 < FQ) (h2 : ¬ FV = V) (HP : Hid (∀ wx, Below w.heap.size w wx → Calls Try.prog 34 #[.pointer (some ⟨p, 0, none⟩), .pointer (some ⟨p, o, none⟩)] wx fun e w' => e = .returned (.bool false) ∧ Below wx.heap.size wx w')) (HF : Hid (∀ wx, Below w.heap.size w wx → R wx)) :
    Calls Try.prog 45 #[.pointer (some ⟨p, 0, none⟩), .pointer (some ⟨p, o, none⟩)] w fun e w' => e = .returned (.tuple #[]) ∧ R w' := by
  have d1 : decide (0 < FQ) = true := decide_eq_true h1
  have d2 : decide (FV = V) = false := decide_eq_false h2
  have d3 : (FV == V) = false := d2
  clear h1
  go_enter Try.func45, Try.ntmps45
  go_wp2_with fail
  go_quiet (fail)
  go_wp2_with fail
  refine (HP.out _ (by first | exact below_drewN _ _ | exact (Below.refl _ _).drew | (refine ⟨rfl, rfl, rfl, Nat.le_refl _, fun _ _ => rfl⟩))).mono ?_
  rintro e w1 ⟨rfl, hb1⟩
  have b1 : Below w.heap.size w w1 := by
    refine Below.trans (?_ : Below w.heap.size w _) hb1
    first | exact below_drewN _ _ | exact (Below.refl _ _).drew | (refine ⟨rfl, rfl, rfl, Nat.le_refl _, fun _ _ => rfl⟩)
  clear hb1
  go_wp2
  (try simp only [Exit.inBlock, Exit.then])
  first | (refine bodyPost_ret (results_none rfl _ _ _) rfl ?_) | go_end0
  exact ⟨rfl, HF.out _ b1⟩
end Go.Proofs.Ytjpmnmgnbpecjaa
