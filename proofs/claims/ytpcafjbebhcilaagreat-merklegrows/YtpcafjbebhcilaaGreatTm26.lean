/- A record's path: the program's answer. -/
import Derived.Test.YtpcafjbebhcilaaGreatTm25
namespace Go.Proofs.YtpcafjbebhcilaaGreat
open Go.RowKit
set_option linter.unusedSimpArgs false
set_option linter.unusedVariables false
variable {p b x y : Nat} {T : List ByteArray} {S : List (Int × ByteArray)}

theorem infoPt4 : (Tryz.prog.info? 80).map (·.size) = some 4 := by kernel_rfl
theorem ptOne (i : Int) (k d : ByteArray) (q : Option Addr) (n c : Nat) : (#[.int .i64 i, .string k, .string d, .slice q n c] : Array Value).all (·.oneCell') = true := by simp [Value.oneCell']
theorem keepRow {w : World} {a : Addr} {u : Value} {k : Nat} {cs : Array Value} (h : w.cell? a = some u) (hk : a.block ≠ k) : (w.setRow k cs).cell? a = some u := by
  rw [World.cell?_of_block (w := w) (setRow_other w k a.block cs hk)]; exact h
theorem Off.rowM (k : Nat) (w : World) (cs : Array Value) : Off k w (w.setRow k cs) := ⟨rfl, rfl, rfl, by simp, fun j _ hj => setRow_other w k j cs hj⟩
theorem Grew.row {T' : List ByteArray} {w w' : World} {c k : Nat} (h : Grew x y p b T S w c T' w') (hk : w.heap.size ≤ k) (h1 : k ≠ p) (h2 : k ≠ b) (h3 : k ≠ x) (h4 : k ≠ y) {cs : Array Value} : Grew x y p b T S w c T' (w'.setRow k cs) :=
  ⟨h.ext, h.len, h.book.grown (row := some k) (Off.rowM k w' cs).byM ⟨by simpa using h1, by simpa using h2, by simpa using h3, by simpa using h4⟩, off2_grown h.off (row := some k) (Off.rowM k w' cs).byM (fun j hj => by simp only [Option.some.injEq] at hj; omega)⟩
theorem own_rowM {w : World} {base n z : Nat} {t : TypeId} {v : Value} {xs : List Value} (h : w.ownsRow base t z v n xs) {k : Nat} (hk : k < base) {cs : Array Value} : (w.setRow k cs).ownsRow base t z v n xs :=
  h.kept (row := some k) (Off.rowM k w cs).byM (by
    cases hv : v.ownBlock with
    | none => exact Or.inl rfl
    | some j => exact Or.inr (fun e => by have := (h.lt j hv).1; simp only [Option.some.injEq] at e; omega))
theorem path_results {w' : World} {c0 c1 c2 c3 : Value} {r : Nat} (X : Blk w' r #[c0, c1, c2, c3] 80) {t : Array Value} (h1 : t.getD 4 undef = .pointer (some ⟨r, 0, none⟩)) :
    (results Tryz.f57 t).run Tryz.prog w' = .ok (.agg #[c0, c1, c2, c3]) w' := by
  have a0 := X.cell (o := 0) rfl
  have a1 := X.cell (o := 1) rfl
  have a2 := X.cell (o := 2) rfl
  have a3 := X.cell (o := 3) rfl
  simp only [Array.getD_eq_getD_getElem?] at h1
  simp [results, Tryz.results57, go_sem, h1, a0, a1, a2, a3]
set_option maxHeartbeats 4000000 in
set_option maxRecDepth 100000 in
theorem path_mk (k i : Nat) (lv dv : Value) (l : List Rc) (ls : List ByteArray) (m : Rc) (w : World) (hX : Blk w k #[.pointer (some ⟨p, 0, none⟩), lv, dv] 64) (hr : Rcs w lv l) (hl : l.length ≤ 4096) (hm : l[i]? = some m) (hz : m.key.size ≤ 64 ∧ m.dat.size ≤ 4096)
    (hL : Lf w dv ls) (hll : ls.length = l.length) (hsz : ∀ s ∈ ls, s.size ≤ 32) (h : Book w p b x y T S) (hT : T.length + l.length < 1000000) :
    Calls Tryz.prog 57 #[.pointer (some ⟨k, 0, none⟩), .int .i64 i] w fun e w' => ∃ sv ss T', e = .returned (.agg #[.int .i64 i, .string m.key, .string m.dat, sv]) ∧ Sides T' ls i ss ∧ w'.ownsRow w.heap.size 9 1 sv ss.length (txC ss) ∧ Grew x y p b T S w l.length T' w' := by
  obtain ⟨hil, hmi⟩ := List.getElem?_eq_some_iff.1 hm
  obtain ⟨a, cap, rfl⟩ := hr.len
  obtain ⟨ad, capd, rfl, _⟩ := id hL
  obtain ⟨g, off, rfl, c3, c4⟩ : ∃ g off, a = some ⟨g, off, none⟩ ∧ w.cell? ⟨g, off + i * 2, none⟩ = some (.string m.key) ∧ w.cell? ⟨g, off + i * 2 + 1, none⟩ = some (.string m.dat) := by
    rcases hr with ⟨_, h0⟩ | ⟨g, off, c, e, hx⟩
    · rw [h0] at hil; simp at hil
    · simp only [Value.slice.injEq] at e
      have := hx i hil
      rw [hmi] at this
      exact ⟨g, off, e.1, this.1, this.2.1⟩
  have hil' : (i : Int) < (l.length : Int) := by omega
  obtain ⟨W1, hW1, X1, B1, Z1⟩ : ∃ W1, w.alloc (.cells #[.int .i64 0, .string ⟨#[]⟩, .string ⟨#[]⟩, .slice none 0 0] 80) = W1 ∧ Blk W1 w.heap.size #[.int .i64 0, .string ⟨#[]⟩, .string ⟨#[]⟩, .slice none 0 0] 80 ∧ Below w.heap.size w W1 ∧ W1.heap.size = w.heap.size + 1 :=
    ⟨_, rfl, blk_new _ _ _ _ rfl, by go_grown, by simp⟩
  obtain ⟨W2, hW2, X2, XR, B2, Z2⟩ : ∃ W2, W1.alloc (.cells #[.string m.key, .string m.dat] 47) = W2 ∧ Blk W2 w.heap.size #[.int .i64 0, .string ⟨#[]⟩, .string ⟨#[]⟩, .slice none 0 0] 80 ∧ Blk W2 W1.heap.size #[.string m.key, .string m.dat] 47 ∧ Below W1.heap.size W1 W2 ∧ W2.heap.size = w.heap.size + 2 :=
    ⟨_, rfl, X1.alloc _, blk_new _ _ _ _ rfl, by go_grown, by simp [Z1]⟩
  have XT := hX.below B1
  have d1 : W1.cell? ⟨k, 1, none⟩ = some (.slice (some ⟨g, off, none⟩) l.length cap) := XT.cell rfl
  have d3 := keepCell B1 c3
  have d4 := keepCell B1 c4
  have hd : Below W2.heap.size W2 W2.drew := (Below.refl _ _).drew
  have B12 := chain B1 B2
  have hBk := h.below B12
  have XT2 := hX.below B12
  have c0 : W2.drew.cell? ⟨k, 0, none⟩ = some (.pointer (some ⟨p, 0, none⟩)) := XT2.cell rfl
  have c2 : W2.drew.cell? ⟨k, 2, none⟩ = some (.slice ad ls.length capd) := XT2.cell rfl
  have e0 : W2.drew.cell? ⟨w.heap.size + 1, 0, none⟩ = some (.string m.key) := by rw [← Z1]; exact XR.cell rfl
  have e1 : W2.drew.cell? ⟨w.heap.size + 1, 1, none⟩ = some (.string m.dat) := by rw [← Z1]; exact XR.cell rfl
  have hL2 := hL.below B12
  clear XT2
  go_enter Tryz.func57, Tryz.ntmps57
  go_wp2_with fail
  have HZ2 : Hid _ := Z2
  have HLL : Hid _ := hll
  have HX2 : Hid _ := X2
  have HX : Hid _ := hX
  have HBK : Hid _ := hBk
  have HL2 : Hid _ := hL2
  have HH : Hid _ := h
  have HB12 : Hid _ := B12
  have HSZ : Hid _ := hsz
  have hTls : T.length + ls.length < 1000000 := by omega
  have hils : i < ls.length := by omega
  have hlls : ls.length ≤ 4096 := by omega
  clear hW1 hW2 Z1 Z2 d1 d3 d4 c3 c4 hr hm hmi hll X1 X2 XR XT hX hL hsz hBk hL2 h B1 B2 B12 hil'
  refine wp_region_held_drew (S := (fun wx => wx.cell? ⟨k, 0, none⟩ = some (.pointer (some ⟨p, 0, none⟩)) ∧ wx.cell? ⟨k, 2, none⟩ = some (.slice ad ls.length capd) ∧ wx.cell? ⟨w.heap.size + 1, 0, none⟩ = some (.string m.key) ∧ wx.cell? ⟨w.heap.size + 1, 1, none⟩ = some (.string m.dat))) (by kernel_rfl) ⟨c0, c2, e0, e1⟩ (fun hS => ?_)
  refine wpAnyH_take (i := 0) (v := (.int .i64 i)) rfl (by kernel_rfl) (by kernel_rfl) (by kernel_rfl) (fun _ _ _ h => h) (Or.inl ⟨by rfl, fun w hS => by obtain ⟨s0, s1, s2, s3⟩ := hS; go_simp⟩) hS ?_
  refine wpAnyH_take (i := 1) (v := (.pointer (some ⟨w.heap.size + 1, 0, none⟩))) rfl (by kernel_rfl) (by kernel_rfl) (by kernel_rfl) (fun _ _ _ h => h) (Or.inl ⟨by rfl, fun w hS => by obtain ⟨s0, s1, s2, s3⟩ := hS; go_simp⟩) hS ?_
  refine wpAnyH_take (i := 2) (v := (.string m.key)) rfl (by kernel_rfl) (by kernel_rfl) (by kernel_rfl) (fun _ _ _ h => h) (Or.inl ⟨by rfl, fun w hS => by obtain ⟨s0, s1, s2, s3⟩ := hS; go_simp⟩) hS ?_
  refine wpAnyH_take (i := 4) (v := (.pointer (some ⟨w.heap.size + 1, 1, none⟩))) rfl (by kernel_rfl) (by kernel_rfl) (by kernel_rfl) (fun _ _ _ h => h) (Or.inl ⟨by rfl, fun w hS => by obtain ⟨s0, s1, s2, s3⟩ := hS; go_simp⟩) hS ?_
  refine wpAnyH_take (i := 5) (v := (.string m.dat)) rfl (by kernel_rfl) (by kernel_rfl) (by kernel_rfl) (fun _ _ _ h => h) (Or.inl ⟨by rfl, fun w hS => by obtain ⟨s0, s1, s2, s3⟩ := hS; go_simp⟩) hS ?_
  refine wpAnyH_take (i := 7) (v := (.pointer (some ⟨k, 0, none⟩))) rfl (by kernel_rfl) (by kernel_rfl) (by kernel_rfl) (fun _ _ _ h => h) (Or.inl ⟨by rfl, fun w hS => by obtain ⟨s0, s1, s2, s3⟩ := hS; go_simp⟩) hS ?_
  refine wpAnyH_take (i := 8) (v := (.pointer (some ⟨k, 0, none⟩))) rfl (by kernel_rfl) (by kernel_rfl) (by kernel_rfl) (fun _ _ _ h => h) (Or.inl ⟨by rfl, fun w hS => by obtain ⟨s0, s1, s2, s3⟩ := hS; go_simp⟩) hS ?_
  refine wpAnyH_take (i := 9) (v := (.pointer (some ⟨k, 0, none⟩))) rfl (by kernel_rfl) (by kernel_rfl) (by kernel_rfl) (fun _ _ _ h => h) (Or.inl ⟨by rfl, fun w hS => by obtain ⟨s0, s1, s2, s3⟩ := hS; go_simp⟩) hS ?_
  refine wpAnyH_take (i := 10) (v := (.pointer (some ⟨p, 0, none⟩))) rfl (by kernel_rfl) (by kernel_rfl) (by kernel_rfl) (fun _ _ _ h => h) (Or.inl ⟨by rfl, fun w hS => by obtain ⟨s0, s1, s2, s3⟩ := hS; go_simp⟩) hS ?_
  refine wpAnyH_take (i := 11) (v := (.pointer (some ⟨k, 0, none⟩))) rfl (by kernel_rfl) (by kernel_rfl) (by kernel_rfl) (fun _ _ _ h => h) (Or.inl ⟨by rfl, fun w hS => by obtain ⟨s0, s1, s2, s3⟩ := hS; go_simp⟩) hS ?_
  refine wpAnyH_take (i := 12) (v := (.pointer (some ⟨k, 0, none⟩))) rfl (by kernel_rfl) (by kernel_rfl) (by kernel_rfl) (fun _ _ _ h => h) (Or.inl ⟨by rfl, fun w hS => by obtain ⟨s0, s1, s2, s3⟩ := hS; go_simp⟩) hS ?_
  refine wpAnyH_take (i := 13) (v := (.pointer (some ⟨k, 2, none⟩))) rfl (by kernel_rfl) (by kernel_rfl) (by kernel_rfl) (fun _ _ _ h => h) (Or.inl ⟨by rfl, fun w hS => by obtain ⟨s0, s1, s2, s3⟩ := hS; go_simp⟩) hS ?_
  refine wpAnyH_take (i := 14) (v := (.slice ad ls.length capd)) rfl (by kernel_rfl) (by kernel_rfl) (by kernel_rfl) (fun _ _ _ h => h) (Or.inl ⟨by rfl, fun w hS => by obtain ⟨s0, s1, s2, s3⟩ := hS; go_simp⟩) hS ?_
  refine wpAnyH_take (i := 15) (v := (.int .i64 i)) rfl (by kernel_rfl) (by kernel_rfl) (by kernel_rfl) (fun _ _ _ h => h) (Or.inl ⟨by rfl, fun w hS => by obtain ⟨s0, s1, s2, s3⟩ := hS; go_simp⟩) hS ?_
  refine wpAnyH_ready (rs := [3]) (by kernel_rfl) (by simp) ?_
  refine AllReadyH.cons rfl (fun K hK => ?_) AllReadyH.nil
  go_simp
  refine (clone_calls m.key _ (by omega)).mono ?_
  rintro e w3 ⟨rfl, hb3⟩
  refine hK.out _ _ ⟨keepCell hb3 hS.1, keepCell hb3 hS.2.1, keepCell hb3 hS.2.2.1, keepCell hb3 hS.2.2.2⟩ (fun hS => ?_)
  clear hK
  refine wpAnyH_ready (rs := [6]) (by kernel_rfl) (by simp) ?_
  refine AllReadyH.cons rfl (fun K hK => ?_) AllReadyH.nil
  go_simp
  refine (clone_calls m.dat _ (by omega)).mono ?_
  rintro e w4 ⟨rfl, hb4⟩
  have b4 := chain (chain hd hb3) hb4
  refine hK.out _ _ ⟨keepCell hb4 hS.1, keepCell hb4 hS.2.1, keepCell hb4 hS.2.2.1, keepCell hb4 hS.2.2.2⟩ (fun hS => ?_)
  clear hK
  refine wpAnyH_ready (rs := [16]) (by kernel_rfl) (by simp) ?_
  refine AllReadyH.cons rfl (fun K hK => ?_) AllReadyH.nil
  go_simp
  refine (sidesOf_calls ls.length ls _ i T _ rfl (by omega) (by omega) (Lf.below HL2.out b4) (HBK.out.below b4) (by omega) HSZ.out).mono ?_
  rintro e w5 ⟨sv, ss, T1, rfl, t1, o5, G5⟩
  have hB4 := HBK.out.below b4
  have X5 : Blk w5 w.heap.size #[.int .i64 0, .string ⟨#[]⟩, .string ⟨#[]⟩, .slice none 0 0] 80 := (Blk.below HX2.out b4).off2 G5.off (by have := HH.out.lts; omega) (by have := HH.out.lts; omega)
  obtain ⟨ps, cs, rfl⟩ := own_sliceM o5
  refine hK.out _ _ ⟨keepCell2 hB4 G5.off hS.1, keepCell2 hB4 G5.off hS.2.1, keepCell2 hB4 G5.off hS.2.2.1, keepCell2 hB4 G5.off hS.2.2.2⟩ (fun hS => ?_)
  clear hK
  refine wpAnyH_ready (rs := [17]) (by kernel_rfl) (by simp) ?_
  refine AllReadyH.cons rfl (fun K hK => ?_) AllReadyH.nil
  go_simp
  refine hK.out _ _ hS (fun hS => ?_)
  clear hK
  refine wpAnyH_ready (rs := [18]) (by kernel_rfl) (by simp) ?_
  refine AllReadyH.cons rfl (fun K hK => ?_) AllReadyH.nil
  refine step_ifM rfl ?_
  refine wp_store_row 80 (.tmp 4) (.tmp 30) rfl w.heap.size #[.int .i64 i, .string m.key, .string m.dat, .slice ps ss.length cs] rfl rfl 80 _ X5 infoPt4 rfl (ptOne _ _ _ _ _ _) ?_
  have hkl := Blk.lt HX.out
  refine hK.out _ _ ⟨keepRow hS.1 (by simp; omega), keepRow hS.2.1 (by simp; omega), keepRow hS.2.2.1 (by simp), keepRow hS.2.2.2 (by simp)⟩ (fun hS => ?_)
  clear hK
  have X6 := X5.setRow #[.int .i64 i, .string m.key, .string m.dat, .slice ps ss.length cs]
  have G6 : Grew x y p b T S w l.length T1 (w5.setRow w.heap.size #[.int .i64 i, .string m.key, .string m.dat, .slice ps ss.length cs]) := by
    have hlts := HH.out.lts
    have G0 : Grew x y p b T S w 0 T w4 := (Grew.refl HH.out).below (chain HB12.out b4)
    have GG := (G0.trans G5).le (d := l.length) (by have := HLL.out; omega)
    exact GG.row (by omega) (by omega) (by omega) (by omega) (by omega)
  have o6 : (w5.setRow w.heap.size #[.int .i64 i, .string m.key, .string m.dat, .slice ps ss.length cs]).ownsRow w.heap.size 9 1 (.slice ps ss.length cs) ss.length (txC ss) :=
    ownsRow_weakM (own_rowM o5 (by have := b4.size; have := HZ2.out; simp at this ⊢; omega)) (by have := b4.size; have := HZ2.out; omega)
  refine wpAnyH_done (by kernel_rfl) ?_ _
  go_wp2
  refine bodyPost_ret (v := .agg #[.int .i64 i, .string m.key, .string m.dat, .slice ps ss.length cs]) (path_results X6 rfl) rfl ?_
  exact ⟨_, ss, T1, rfl, t1, o6, G6⟩
end Go.Proofs.YtpcafjbebhcilaaGreat
