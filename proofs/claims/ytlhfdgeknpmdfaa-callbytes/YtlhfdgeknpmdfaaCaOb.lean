/- The order of six numbers. -/
import Derived.Test.YtlhfdgeknpmdfaaCaOp
namespace Go.Proofs.Ytlhfdgeknpmdfaa
open Go.RowKit
set_option linter.unusedSimpArgs false
set_option linter.unusedVariables false

theorem infoO6b : (Try.prog.info? 28).map (·.size) = some 6 := by kernel_rfl
theorem oneO6 (a b d e f : Int) (x : Bool) : (#[.int .i64 a, .int .i64 b, .int .i64 d, .int .i64 e, .int .i64 f, .bool x] : Array Value).all (·.oneCell') = true := by simp [Value.oneCell']
theorem orderOf_results {w' : World} {c0 c1 c2 c3 c4 c5 v : Value} {r : Nat} (X : Blk w' r #[c0, c1, c2, c3, c4, c5] 28) {t : Array Value} (h1 : t.getD 2 undef = .pointer (some ⟨r, 0, none⟩)) (h2 : t.getD 3 undef = v) :
    (results Try.f22 t).run Try.prog w' = .ok (.tuple #[.agg #[c0, c1, c2, c3, c4, c5], v]) w' := by
  have a0 := X.cell (o := 0) rfl
  have a1 := X.cell (o := 1) rfl
  have a2 := X.cell (o := 2) rfl
  have a3 := X.cell (o := 3) rfl
  have a4 := X.cell (o := 4) rfl
  have a5 := X.cell (o := 5) rfl
  simp only [Array.getD_eq_getD_getElem?] at h1 h2
  simp [results, Try.results22, go_sem, h1, h2, a0, a1, a2, a3, a4, a5]
theorem rowK {w W : World} {k : Nat} {cs : Array Value} (hW : w.setRow k cs = W) {a : Addr} {u : Value} (h : w.cell? a = some u) (hn : a.block ≠ k) : W.cell? a = some u := by
  subst hW
  exact (World.cell?_of_block (setRow_other w k a.block cs hn)).trans h
set_option maxHeartbeats 4000000 in
set_option maxRecDepth 100000 in
theorem orderOf_calls (g off cap : Nat) (a b c d e f : Int) (w : World) (q0 : w.cell? ⟨g, off, none⟩ = some (.int .i64 a)) (q1 : w.cell? ⟨g, off + 1, none⟩ = some (.int .i64 b)) (q2 : w.cell? ⟨g, off + 2, none⟩ = some (.int .i64 c)) (q3 : w.cell? ⟨g, off + 3, none⟩ = some (.int .i64 d)) (q4 : w.cell? ⟨g, off + 4, none⟩ = some (.int .i64 e)) (q5 : w.cell? ⟨g, off + 5, none⟩ = some (.int .i64 f)) :
    Calls Try.prog 22 #[.slice (some ⟨g, off, none⟩) 6 cap] w fun e' w' => e' = .returned (.tuple #[.agg #[.int .i64 a, .int .i64 b, .int .i64 d, .int .i64 e, .int .i64 f, .bool (c == 0)], .bool (c == sdN (odI a b c d e f))]) ∧ Below w.heap.size w w' := by
  obtain ⟨W1, hW1, X1, B1⟩ : ∃ W1, w.alloc (.cells #[.int .i64 0, .int .i64 0, .int .i64 0, .int .i64 0, .int .i64 0, .bool false] 28) = W1 ∧ Blk W1 w.heap.size #[.int .i64 0, .int .i64 0, .int .i64 0, .int .i64 0, .int .i64 0, .bool false] 28 ∧ Below w.heap.size w W1 := ⟨_, rfl, blk_new _ _ _ _ rfl, by go_grown⟩
  have z1 : w.heap.size < W1.heap.size := X1.lt
  have zg : g ≠ w.heap.size := fun e => by have := World.block_lt_of_cell? w _ q2; simp only at this; omega
  have h0 : W1.cell? ⟨g, off, none⟩ = some (.int .i64 a) := keepY B1 q0
  have h1 : W1.cell? ⟨g, off + 1, none⟩ = some (.int .i64 b) := keepY B1 q1
  have h2 : W1.cell? ⟨g, off + 2, none⟩ = some (.int .i64 c) := keepY B1 q2
  have h3 : W1.cell? ⟨g, off + 3, none⟩ = some (.int .i64 d) := keepY B1 q3
  have h4 : W1.cell? ⟨g, off + 4, none⟩ = some (.int .i64 e) := keepY B1 q4
  have h5 : W1.cell? ⟨g, off + 5, none⟩ = some (.int .i64 f) := keepY B1 q5
  obtain ⟨W2, hW2, X2, B2⟩ : ∃ W2, W1.drew.alloc (.cells #[.int .i64 0, .int .i64 0, .int .i64 0, .int .i64 0, .int .i64 0, .bool false] 28) = W2 ∧ Blk W2 W1.heap.size #[.int .i64 0, .int .i64 0, .int .i64 0, .int .i64 0, .int .i64 0, .bool false] 28 ∧ Below W1.heap.size W1 W2 := ⟨_, rfl, blk_new _ _ _ _ rfl, ((Below.refl _ _).drew).alloc (Nat.le_refl _) _⟩
  obtain ⟨W3, hW3, X3, _⟩ := setRow_named X2 #[.int .i64 a, .int .i64 b, .int .i64 d, .int .i64 e, .int .i64 f, .bool (c == 0)]
  have B3 : Below W1.heap.size W1 W3 := below_row B2 hW3 (Nat.le_refl _)
  have k0 : W3.cell? ⟨g, off, none⟩ = some (.int .i64 a) := keepY B3 h0
  have k1 : W3.cell? ⟨g, off + 1, none⟩ = some (.int .i64 b) := keepY B3 h1
  have k2 : W3.cell? ⟨g, off + 2, none⟩ = some (.int .i64 c) := keepY B3 h2
  have k3 : W3.cell? ⟨g, off + 3, none⟩ = some (.int .i64 d) := keepY B3 h3
  have k4 : W3.cell? ⟨g, off + 4, none⟩ = some (.int .i64 e) := keepY B3 h4
  have k5 : W3.cell? ⟨g, off + 5, none⟩ = some (.int .i64 f) := keepY B3 h5
  have m0 : W2.cell? ⟨g, off, none⟩ = some (.int .i64 a) := keepY B2 h0
  have m1 : W2.cell? ⟨g, off + 1, none⟩ = some (.int .i64 b) := keepY B2 h1
  have m2 : W2.cell? ⟨g, off + 2, none⟩ = some (.int .i64 c) := keepY B2 h2
  have m3 : W2.cell? ⟨g, off + 3, none⟩ = some (.int .i64 d) := keepY B2 h3
  have m4 : W2.cell? ⟨g, off + 4, none⟩ = some (.int .i64 e) := keepY B2 h4
  have m5 : W2.cell? ⟨g, off + 5, none⟩ = some (.int .i64 f) := keepY B2 h5
  have X13 : Blk W3 w.heap.size #[.int .i64 0, .int .i64 0, .int .i64 0, .int .i64 0, .int .i64 0, .bool false] 28 := X1.below B3
  have HSD : Hid _ := fun (wx : World) => sideOf_calls (odI a b c d e f) wx
  go_enter Try.func22, Try.ntmps22
  go_wp2_with fail
  refine wp_region_held_drew (S := (fun wx => wx.cell? ⟨g, off, none⟩ = some (.int .i64 a) ∧ wx.cell? ⟨g, off + 1, none⟩ = some (.int .i64 b) ∧ wx.cell? ⟨g, off + 2, none⟩ = some (.int .i64 c) ∧ wx.cell? ⟨g, off + 3, none⟩ = some (.int .i64 d) ∧ wx.cell? ⟨g, off + 4, none⟩ = some (.int .i64 e) ∧ wx.cell? ⟨g, off + 5, none⟩ = some (.int .i64 f))) (by kernel_rfl) ⟨h0, h1, h2, h3, h4, h5⟩ (fun hS => ?_)
  refine wpAnyH_take (i := 0) (v := (.slice (some ⟨g, off, none⟩) 6 cap)) rfl (by kernel_rfl) (by kernel_rfl) (by kernel_rfl) (fun _ _ _ h => h) (Or.inl ⟨by rfl, fun w hS => by obtain ⟨s0, s1, s2, s3, s4, s5⟩ := hS; go_simp⟩) hS ?_
  refine wpAnyH_take (i := 1) (v := (.pointer (some ⟨g, off, none⟩))) rfl (by kernel_rfl) (by kernel_rfl) (by kernel_rfl) (fun _ _ _ h => h) (Or.inl ⟨by rfl, fun w hS => by obtain ⟨s0, s1, s2, s3, s4, s5⟩ := hS; go_simp⟩) hS ?_
  refine wpAnyH_take (i := 2) (v := (.int .i64 a)) rfl (by kernel_rfl) (by kernel_rfl) (by kernel_rfl) (fun _ _ _ h => h) (Or.inl ⟨by rfl, fun w hS => by obtain ⟨s0, s1, s2, s3, s4, s5⟩ := hS; go_simp⟩) hS ?_
  refine wpAnyH_take (i := 3) (v := (.slice (some ⟨g, off, none⟩) 6 cap)) rfl (by kernel_rfl) (by kernel_rfl) (by kernel_rfl) (fun _ _ _ h => h) (Or.inl ⟨by rfl, fun w hS => by obtain ⟨s0, s1, s2, s3, s4, s5⟩ := hS; go_simp⟩) hS ?_
  refine wpAnyH_take (i := 4) (v := (.pointer (some ⟨g, off + 1, none⟩))) rfl (by kernel_rfl) (by kernel_rfl) (by kernel_rfl) (fun _ _ _ h => h) (Or.inl ⟨by rfl, fun w hS => by obtain ⟨s0, s1, s2, s3, s4, s5⟩ := hS; go_simp⟩) hS ?_
  refine wpAnyH_take (i := 5) (v := (.int .i64 b)) rfl (by kernel_rfl) (by kernel_rfl) (by kernel_rfl) (fun _ _ _ h => h) (Or.inl ⟨by rfl, fun w hS => by obtain ⟨s0, s1, s2, s3, s4, s5⟩ := hS; go_simp⟩) hS ?_
  refine wpAnyH_take (i := 6) (v := (.slice (some ⟨g, off, none⟩) 6 cap)) rfl (by kernel_rfl) (by kernel_rfl) (by kernel_rfl) (fun _ _ _ h => h) (Or.inl ⟨by rfl, fun w hS => by obtain ⟨s0, s1, s2, s3, s4, s5⟩ := hS; go_simp⟩) hS ?_
  refine wpAnyH_take (i := 7) (v := (.pointer (some ⟨g, off + 2, none⟩))) rfl (by kernel_rfl) (by kernel_rfl) (by kernel_rfl) (fun _ _ _ h => h) (Or.inl ⟨by rfl, fun w hS => by obtain ⟨s0, s1, s2, s3, s4, s5⟩ := hS; go_simp⟩) hS ?_
  refine wpAnyH_take (i := 8) (v := (.int .i64 c)) rfl (by kernel_rfl) (by kernel_rfl) (by kernel_rfl) (fun _ _ _ h => h) (Or.inl ⟨by rfl, fun w hS => by obtain ⟨s0, s1, s2, s3, s4, s5⟩ := hS; go_simp⟩) hS ?_
  refine wpAnyH_take (i := 9) (v := (.bool (c == 0))) rfl (by kernel_rfl) (by kernel_rfl) (by kernel_rfl) (fun _ _ _ h => h) (Or.inl ⟨by rfl, fun w hS => by obtain ⟨s0, s1, s2, s3, s4, s5⟩ := hS; go_simp⟩) hS ?_
  refine wpAnyH_take (i := 10) (v := (.slice (some ⟨g, off, none⟩) 6 cap)) rfl (by kernel_rfl) (by kernel_rfl) (by kernel_rfl) (fun _ _ _ h => h) (Or.inl ⟨by rfl, fun w hS => by obtain ⟨s0, s1, s2, s3, s4, s5⟩ := hS; go_simp⟩) hS ?_
  refine wpAnyH_take (i := 11) (v := (.pointer (some ⟨g, off + 3, none⟩))) rfl (by kernel_rfl) (by kernel_rfl) (by kernel_rfl) (fun _ _ _ h => h) (Or.inl ⟨by rfl, fun w hS => by obtain ⟨s0, s1, s2, s3, s4, s5⟩ := hS; go_simp⟩) hS ?_
  refine wpAnyH_take (i := 12) (v := (.int .i64 d)) rfl (by kernel_rfl) (by kernel_rfl) (by kernel_rfl) (fun _ _ _ h => h) (Or.inl ⟨by rfl, fun w hS => by obtain ⟨s0, s1, s2, s3, s4, s5⟩ := hS; go_simp⟩) hS ?_
  refine wpAnyH_take (i := 13) (v := (.slice (some ⟨g, off, none⟩) 6 cap)) rfl (by kernel_rfl) (by kernel_rfl) (by kernel_rfl) (fun _ _ _ h => h) (Or.inl ⟨by rfl, fun w hS => by obtain ⟨s0, s1, s2, s3, s4, s5⟩ := hS; go_simp⟩) hS ?_
  refine wpAnyH_take (i := 14) (v := (.pointer (some ⟨g, off + 4, none⟩))) rfl (by kernel_rfl) (by kernel_rfl) (by kernel_rfl) (fun _ _ _ h => h) (Or.inl ⟨by rfl, fun w hS => by obtain ⟨s0, s1, s2, s3, s4, s5⟩ := hS; go_simp⟩) hS ?_
  refine wpAnyH_take (i := 15) (v := (.int .i64 e)) rfl (by kernel_rfl) (by kernel_rfl) (by kernel_rfl) (fun _ _ _ h => h) (Or.inl ⟨by rfl, fun w hS => by obtain ⟨s0, s1, s2, s3, s4, s5⟩ := hS; go_simp⟩) hS ?_
  refine wpAnyH_take (i := 16) (v := (.slice (some ⟨g, off, none⟩) 6 cap)) rfl (by kernel_rfl) (by kernel_rfl) (by kernel_rfl) (fun _ _ _ h => h) (Or.inl ⟨by rfl, fun w hS => by obtain ⟨s0, s1, s2, s3, s4, s5⟩ := hS; go_simp⟩) hS ?_
  refine wpAnyH_take (i := 17) (v := (.pointer (some ⟨g, off + 5, none⟩))) rfl (by kernel_rfl) (by kernel_rfl) (by kernel_rfl) (fun _ _ _ h => h) (Or.inl ⟨by rfl, fun w hS => by obtain ⟨s0, s1, s2, s3, s4, s5⟩ := hS; go_simp⟩) hS ?_
  refine wpAnyH_take (i := 18) (v := (.int .i64 f)) rfl (by kernel_rfl) (by kernel_rfl) (by kernel_rfl) (fun _ _ _ h => h) (Or.inl ⟨by rfl, fun w hS => by obtain ⟨s0, s1, s2, s3, s4, s5⟩ := hS; go_simp⟩) hS ?_
  refine wpAnyH_take (i := 19) (v := (.agg #[.int .i64 a, .int .i64 b, .int .i64 d, .int .i64 e, .int .i64 f, .bool (c == 0)])) rfl (by kernel_rfl) (by kernel_rfl) (by kernel_rfl) (fun _ _ _ h => h) (Or.inl ⟨by rfl, fun w hS => by obtain ⟨s0, s1, s2, s3, s4, s5⟩ := hS; go_simp⟩) hS ?_
  refine wpAnyH_ready (rs := [20]) (by kernel_rfl) (by simp) ?_
  refine AllReadyH.cons rfl (fun K hK => ?_) AllReadyH.nil
  go_simp
  refine hK.out _ _ ⟨m0, m1, m2, m3, m4, m5⟩ (fun hS => ?_)
  clear hK
  refine wpAnyH_ready (rs := [21]) (by kernel_rfl) (by simp) ?_
  refine readyH_rowC 21 rfl (ty := 28) (x := .tmp 4) (y := .tmp 24) rfl rfl rfl W1.heap.size #[.int .i64 a, .int .i64 b, .int .i64 d, .int .i64 e, .int .i64 f, .bool (c == 0)] (by kernel_rfl) (by kernel_rfl) 28 #[.int .i64 0, .int .i64 0, .int .i64 0, .int .i64 0, .int .i64 0, .bool false] X2 infoO6b rfl (oneO6 _ _ _ _ _ _) (by rw [hW3]; exact ⟨k0, k1, k2, k3, k4, k5⟩) (fun hS => ?_)
  refine wpAnyH_done (by kernel_rfl) ?_ _
  rw [hW3]
  have x0 : W3.cell? ⟨W1.heap.size, 0, none⟩ = some (.int .i64 a) := X3.cell rfl
  have x1 : W3.cell? ⟨W1.heap.size, 1, none⟩ = some (.int .i64 b) := X3.cell rfl
  have x2 : W3.cell? ⟨W1.heap.size, 2, none⟩ = some (.int .i64 d) := X3.cell rfl
  have x3 : W3.cell? ⟨W1.heap.size, 3, none⟩ = some (.int .i64 e) := X3.cell rfl
  have x4 : W3.cell? ⟨W1.heap.size, 4, none⟩ = some (.int .i64 f) := X3.cell rfl
  have x5 : W3.cell? ⟨W1.heap.size, 5, none⟩ = some (.bool (c == 0)) := X3.cell rfl
  go_wp2_with fail
  refine wp_region_held_drew (S := (fun wx => wx.cell? ⟨W1.heap.size, 0, none⟩ = some (.int .i64 a) ∧ wx.cell? ⟨W1.heap.size, 1, none⟩ = some (.int .i64 b) ∧ wx.cell? ⟨W1.heap.size, 2, none⟩ = some (.int .i64 d) ∧ wx.cell? ⟨W1.heap.size, 3, none⟩ = some (.int .i64 e) ∧ wx.cell? ⟨W1.heap.size, 4, none⟩ = some (.int .i64 f) ∧ wx.cell? ⟨W1.heap.size, 5, none⟩ = some (.bool (c == 0)) ∧ wx.cell? ⟨g, off + 2, none⟩ = some (.int .i64 c))) (by kernel_rfl) ⟨x0, x1, x2, x3, x4, x5, k2⟩ (fun hS => ?_)
  refine wpAnyH_take (i := 0) (v := (.agg #[.int .i64 a, .int .i64 b, .int .i64 d, .int .i64 e, .int .i64 f, .bool (c == 0)])) rfl (by kernel_rfl) (by kernel_rfl) (by kernel_rfl) (fun _ _ _ h => h) (Or.inl ⟨by rfl, fun w hS => by obtain ⟨s0, s1, s2, s3, s4, s5, s6⟩ := hS; go_simp⟩) hS ?_
  refine wpAnyH_take (i := 1) (v := (.slice (some ⟨g, off, none⟩) 6 cap)) rfl (by kernel_rfl) (by kernel_rfl) (by kernel_rfl) (fun _ _ _ h => h) (Or.inl ⟨by rfl, fun w hS => by obtain ⟨s0, s1, s2, s3, s4, s5, s6⟩ := hS; go_simp⟩) hS ?_
  refine wpAnyH_take (i := 2) (v := (.pointer (some ⟨g, off + 2, none⟩))) rfl (by kernel_rfl) (by kernel_rfl) (by kernel_rfl) (fun _ _ _ h => h) (Or.inl ⟨by rfl, fun w hS => by obtain ⟨s0, s1, s2, s3, s4, s5, s6⟩ := hS; go_simp⟩) hS ?_
  refine wpAnyH_take (i := 3) (v := (.int .i64 c)) rfl (by kernel_rfl) (by kernel_rfl) (by kernel_rfl) (fun _ _ _ h => h) (Or.inl ⟨by rfl, fun w hS => by obtain ⟨s0, s1, s2, s3, s4, s5, s6⟩ := hS; go_simp⟩) hS ?_
  refine wpAnyH_take (i := 4) (v := (.agg #[.int .i64 a, .int .i64 b, .int .i64 d, .int .i64 e, .int .i64 f, .bool (c == 0)])) rfl (by kernel_rfl) (by kernel_rfl) (by kernel_rfl) (fun _ _ _ h => h) (Or.inl ⟨by rfl, fun w hS => by obtain ⟨s0, s1, s2, s3, s4, s5, s6⟩ := hS; go_simp⟩) hS ?_
  refine wpAnyH_ready (rs := [5]) (by kernel_rfl) (by simp) ?_
  refine AllReadyH.cons rfl (fun K hK => ?_) AllReadyH.nil
  go_simp
  refine (HSD.out _).mono ?_
  rintro e5 w5 ⟨rfl, b5⟩
  refine hK.out _ _ ⟨keepY b5 hS.1, keepY b5 hS.2.1, keepY b5 hS.2.2.1, keepY b5 hS.2.2.2.1, keepY b5 hS.2.2.2.2.1, keepY b5 hS.2.2.2.2.2.1, keepY b5 hS.2.2.2.2.2.2⟩ (fun hS => ?_)
  clear hK
  have B5 : Below W1.heap.size W1 w5 := B3.trans (((Below.refl _ _).drew.trans b5).mono B3.size)
  have X5 : Blk w5 w.heap.size #[.int .i64 0, .int .i64 0, .int .i64 0, .int .i64 0, .int .i64 0, .bool false] 28 := X1.below B5
  obtain ⟨W6, hW6, X6, _⟩ := setRow_named X5 #[.int .i64 a, .int .i64 b, .int .i64 d, .int .i64 e, .int .i64 f, .bool (c == 0)]
  refine wpAnyH_take (i := 6) (v := (.bool (c == sdN (odI a b c d e f)))) rfl (by kernel_rfl) (by kernel_rfl) (by kernel_rfl) (fun _ _ _ h => h) (Or.inl ⟨by rfl, fun w hS => by obtain ⟨s0, s1, s2, s3, s4, s5, s6⟩ := hS; go_simp⟩) hS ?_
  refine wpAnyH_ready (rs := [7]) (by kernel_rfl) (by simp) ?_
  refine readyH_rowC 7 rfl (ty := 28) (x := .tmp 2) (y := .tmp 25) rfl rfl rfl w.heap.size #[.int .i64 a, .int .i64 b, .int .i64 d, .int .i64 e, .int .i64 f, .bool (c == 0)] (by kernel_rfl) (by kernel_rfl) 28 #[.int .i64 0, .int .i64 0, .int .i64 0, .int .i64 0, .int .i64 0, .bool false] X5 infoO6b rfl (oneO6 _ _ _ _ _ _) (by rw [hW6]; exact ⟨rowK hW6 hS.1 (by show W1.heap.size ≠ w.heap.size; omega), rowK hW6 hS.2.1 (by show W1.heap.size ≠ w.heap.size; omega), rowK hW6 hS.2.2.1 (by show W1.heap.size ≠ w.heap.size; omega), rowK hW6 hS.2.2.2.1 (by show W1.heap.size ≠ w.heap.size; omega), rowK hW6 hS.2.2.2.2.1 (by show W1.heap.size ≠ w.heap.size; omega), rowK hW6 hS.2.2.2.2.2.1 (by show W1.heap.size ≠ w.heap.size; omega), rowK hW6 hS.2.2.2.2.2.2 (by show g ≠ w.heap.size; omega)⟩) (fun hS => ?_)
  refine wpAnyH_ready (rs := [8]) (by kernel_rfl) (by simp) ?_
  refine AllReadyH.cons rfl (fun K hK => ?_) AllReadyH.nil
  go_simp
  try rw [hW6] at hS
  refine hK.out _ _ hS (fun hS => ?_)
  clear hK
  refine wpAnyH_done (by kernel_rfl) ?_ _
  go_wp2
  refine bodyPost_ret (v := .tuple #[.agg #[.int .i64 a, .int .i64 b, .int .i64 d, .int .i64 e, .int .i64 f, .bool (c == 0)], .bool (c == sdN (odI a b c d e f))]) (orderOf_results X6 rfl rfl) rfl ?_
  exact ⟨rfl, below_row (B1.trans (B5.mono (by omega))) hW6 (Nat.le_refl _)⟩
end Go.Proofs.Ytlhfdgeknpmdfaa
