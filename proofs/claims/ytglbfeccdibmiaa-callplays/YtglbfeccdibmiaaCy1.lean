/- A call of a book and of the document's: the walk. -/
import Derived.Test.YtglbfeccdibmiaaCdM
import Derived.Test.YtglbfeccdibmiaaCdC
import Derived.Test.YtglbfeccdibmiaaCaSm
import Derived.Test.YtglbfeccdibmiaaCaV
import Derived.Test.YtglbfeccdibmiaaCpK
import Derived.Test.YtglbfeccdibmiaaCaS
import Derived.Test.YtglbfeccdibmiaaCaX
import Derived.Test.YtglbfeccdibmiaaOpS
import Derived.OpenShut
namespace Go.Proofs.Ytglbfeccdibmiaa
open Go.RowKit
set_option linter.unusedSimpArgs false
set_option linter.unusedVariables false
variable {base p : Nat} {v : Value} {B : Bo}
theorem step_results {w' : World} {c0 c1 v : Value} {r : Nat} (X : Blk w' r #[c0, c1] 27) {t : Array Value} (h1 : t.getD 6 undef = .pointer (some ⟨r, 0, none⟩)) (h2 : t.getD 7 undef = v) :
    (results Try.f5 t).run Try.prog w' = .ok (.tuple #[.agg #[c0, c1], v]) w' := by
  have a0 := X.cell (o := 0) rfl
  have a1 := X.cell (o := 1) rfl
  simp only [Array.getD_eq_getD_getElem?] at h1 h2
  simp [results, Try.results5, go_sem, h1, h2, a0, a1]
/-- From lo to hi all blocks but r are as they were. -/
def Rng (lo hi r : Nat) (W wx : World) : Prop := W.heap.size ≤ wx.heap.size ∧ ∀ k, lo ≤ k → k < hi → k ≠ r → wx.heap[k]? = W.heap[k]?
theorem Rng.cell {lo hi r : Nat} {W wx : World} (h : Rng lo hi r W wx) {a : Addr} {u : Value} (c : W.cell? a = some u) (h1 : lo ≤ a.block) (h2 : a.block < hi) (h3 : a.block ≠ r) : wx.cell? a = some u :=
  (World.cell?_of_block (h.2 a.block h1 h2 h3)).trans c
theorem Rng.start (lo hi r : Nat) (W : World) : Rng lo hi r W W.drew := ⟨Nat.le_refl _, fun _ _ _ _ => rfl⟩
theorem Rng.below {lo hi r : Nat} {W w w' : World} (h : Rng lo hi r W w) (hh : hi ≤ W.heap.size) (hb : Below w.heap.size w w') : Rng lo hi r W w' :=
  ⟨Nat.le_trans h.1 hb.size, fun k h1 h2 h3 => (hb.block k (by have := h.1; omega)).trans (h.2 k h1 h2 h3)⟩
theorem Rng.ofb {lo hi r : Nat} {W w w' : World} (h : Rng lo hi r W w) (hh : hi ≤ W.heap.size) (hp : p < lo) (hv : ∀ k, v.ownBlock = some k → k < lo) (ho : Ofb p v w w') : Rng lo hi r W w' :=
  ⟨Nat.le_trans h.1 ho.size, fun k h1 h2 h3 => (ho.block k (by have := h.1; omega) (by omega) (fun e => by have := hv k e; omega)).trans (h.2 k h1 h2 h3)⟩
theorem Rng.row {lo hi r : Nat} {W w : World} (h : Rng lo hi r W w) (cs : Array Value) : Rng lo hi r W (w.setRow r cs) :=
  ⟨by simpa using h.1, fun k h1 h2 h3 => (setRow_other w r k cs h3).trans (h.2 k h1 h2 h3)⟩
/-- The document's row lies apart from the book. -/
def Apd (lv : Value) (p : Nat) (v : Value) (w : World) : Prop := ∀ k, lv.ownBlock = some k → k ≠ p ∧ v.ownBlock ≠ some k ∧ k < w.heap.size
theorem Ods.ofb {w w' : World} {lv : Value} {l : List Od} (h : Ods w lv l) (ho : Ofb p v w w') (ha : ∀ k, lv.ownBlock = some k → k ≠ p ∧ v.ownBlock ≠ some k) : Ods w' lv l := by
  obtain ⟨a, cap, rfl, hc⟩ := h
  refine ⟨a, cap, rfl, ?_⟩
  rcases hc with h1 | ⟨g, off, rfl, hx⟩
  · exact Or.inl h1
  · refine Or.inr ⟨g, off, rfl, fun k x i u h2 h3 => ?_⟩
    exact Ofb.cell ho (hx k x i u h2 h3) (ha g rfl).1 (ha g rfl).2
theorem Ods.row {w W : World} {r : Nat} {lv : Value} {l : List Od} {cs : Array Value} (h : Ods w lv l) (hW : w.setRow r cs = W) (ha : lv.ownBlock ≠ some r) : Ods W lv l := by
  obtain ⟨a, cap, rfl, hc⟩ := h
  refine ⟨a, cap, rfl, ?_⟩
  rcases hc with h1 | ⟨g, off, rfl, hx⟩
  · exact Or.inl h1
  · refine Or.inr ⟨g, off, rfl, fun k x i u h2 h3 => rowK hW (hx k x i u h2 h3) (fun e => ha ?_)⟩
    show some g = some r
    rw [← e]
theorem Bst.row {a b W : World} {v' : Value} {r : Nat} {cs : Array Value} (h : Bst a b base p v v' B) (hW : b.setRow r cs = W) (hr : a.heap.size ≤ r) (hp : p ≠ r) (hv : v'.ownBlock ≠ some r) (hb : base ≤ a.heap.size) : Bst a W base p v v' B := by
  have o : Off r b W := by rw [← hW]; exact (Off.refl _ _).setRow _
  exact ⟨⟨Blk.off h.bk.blk o hp, World.ownsRow.kept h.bk.row (offBy o) (Or.inr hv), h.bk.le, h.bk.ne, h.bk.inv⟩, ⟨o.os.trans h.of.os, o.tape.trans h.of.tape, o.output.trans h.of.output, Nat.le_trans h.of.size o.size, fun k hk h1 h2 => (o.block k (Nat.lt_of_lt_of_le hk h.of.size) (by omega)).trans (h.of.block k hk h1 h2)⟩, h.at_⟩
theorem own_ofb {w w' : World} {b z n : Nat} {t : TypeId} {u : Value} {xs : List Value} (h : w.ownsRow b t z u n xs) (ho : Ofb p v w w') (ha : ∀ k, u.ownBlock = some k → k ≠ p ∧ v.ownBlock ≠ some k) : w'.ownsRow b t z u n xs := by
  refine ⟨h.1, ?_⟩
  rcases h.2 with q | ⟨g, cap, cur, q, h1, h2, h3⟩
  · exact Or.inl q
  · refine Or.inr ⟨g, cap, cur, q, h1, ?_, h3⟩
    have hg : g < w.heap.size := (h.lt g (by rw [q]; rfl)).2
    rw [ho.block g hg (ha g (by rw [q]; rfl)).1 (ha g (by rw [q]; rfl)).2]; exact h2
/-- Behind a call of both: the document's book, the program's. -/
def StepP (lv : Value) (w : World) (base p : Nat) (v : Value) (B' : Bo) (e : Ending) (w' : World) : Prop :=
  ∃ lv' v', e = .returned (.tuple #[.agg #[lv', .int .i64 B'.nx], .bool true]) ∧ Ods w' lv' B'.os ∧ Bst w w' base p v v' B' ∧ Apd lv' p v' w' ∧ ∀ k, lv'.ownBlock = some k → lv.ownBlock = some k ∨ w.heap.size ≤ k
/-- What follows from the two calls. -/
theorem step_end {lv lv' v' : Value} {B' : Bo} {w W3 w4 W5 w6 W9 : World} {R : Nat} {cs : Array Value} (hw : Bk w base p v B) (hap : Apd lv p v w) (hB : base ≤ w.heap.size) (h3 : Below w.heap.size w W3) (hR1 : w.heap.size ≤ R) (hR2 : R < W3.heap.size)
    (b4 : Below W3.heap.size W3 w4) (hO : Ods w4 lv' B'.os) (hown : ∀ k, lv'.ownBlock = some k → lv.ownBlock = some k ∨ (W3.heap.size ≤ k ∧ k < w4.heap.size)) (b5 : Below w4.heap.size w4 W5) (S6 : Bst W5 w6 base p v v' B') (hW9 : w6.setRow R cs = W9) :
    Ods W9 lv' B'.os ∧ Bst w W9 base p v v' B' ∧ Apd lv' p v' W9 ∧ ∀ k, lv'.ownBlock = some k → lv.ownBlock = some k ∨ w.heap.size ≤ k := by
  have z3 := h3.size
  have z4 := b4.size
  have z5 := b5.size
  have z6 := S6.of.size
  have hpw := hw.blk.lt
  have hvw : ∀ k, v.ownBlock = some k → k < w.heap.size := fun k hk => (hw.row.lt k hk).2
  have e9 := row_size hW9
  have hap' : ∀ k, lv'.ownBlock = some k → k ≠ p ∧ v.ownBlock ≠ some k ∧ k ≠ R ∧ k < W5.heap.size := fun k hk => by
    rcases hown k hk with h | h
    · have := hap k h; exact ⟨this.1, this.2.1, by omega, by omega⟩
    · exact ⟨by omega, fun e => by have := hvw k e; omega, by omega, by omega⟩
  have hwW5 : Below w.heap.size w W5 := (h3.trans (b4.mono z3)).trans (b5.mono (by omega))
  have hv' : v'.ownBlock ≠ some R := fun e => by
    rcases S6.at_ R e with h | h
    · have := hvw R h; omega
    · omega
  refine ⟨((hO.below b5).ofb S6.of (fun k hk => ⟨(hap' k hk).1, (hap' k hk).2.1⟩)).row hW9 (fun e => (hap' R e).2.2.1 rfl), (Bst.first hwW5 S6).row hW9 hR1 (by omega) hv' hB, fun k hk => ⟨(hap' k hk).1, fun e => ?_, by have := (hap' k hk).2.2.2; omega⟩, fun k hk => ?_⟩
  · rcases S6.at_ k e with h | h
    · exact (hap' k hk).2.1 h
    · have := (hap' k hk).2.2.2; omega
  · rcases hown k hk with h | h
    · exact Or.inl h
    · exact Or.inr (by omega)
set_option maxHeartbeats 8000000 in
set_option maxRecDepth 100000 in
theorem step_calls (lv : Value) (a0 x0 x1 x2 x3 x4 : Int) (x5 : Bool) (w : World) (h : Bk w base p v B) (hB : base ≤ w.heap.size) (hl : Ods w lv B.os) (hap : Apd lv p v w) :
    Calls Try.prog 5 #[.pointer (some ⟨p, 0, none⟩), .agg #[lv, .int .i64 B.nx], .agg #[.int .i64 a0, .int .i64 x0, .int .i64 x1, .int .i64 x2, .int .i64 x3, .int .i64 x4, .bool x5]] w (StepP lv w base p v (B.act (a0, x0, x1, x2, x3, x4, x5))) := by
  have HK : Hid _ := h
  have HAP : Hid _ := hap
  have HI : Hid _ := h.inv
  have hpl := h.blk.lt
  have hvl : ∀ k, v.ownBlock = some k → k < w.heap.size := fun k hk => (h.row.lt k hk).2
  obtain ⟨W1, hW1, X1, B1, Z1⟩ : ∃ W1, w.alloc (.cells #[lv, .int .i64 B.nx] 27) = W1 ∧ Blk W1 w.heap.size #[lv, .int .i64 B.nx] 27 ∧ Below w.heap.size w W1 ∧ W1.heap.size = w.heap.size + 1 := ⟨_, rfl, blk_new _ _ _ _ rfl, by go_grown, by simp⟩
  obtain ⟨W2, hW2, X2, B2, Z2⟩ : ∃ W2, W1.alloc (.cells #[.int .i64 a0, .int .i64 x0, .int .i64 x1, .int .i64 x2, .int .i64 x3, .int .i64 x4, .bool x5] 33) = W2 ∧ Blk W2 (w.heap.size + 1) #[.int .i64 a0, .int .i64 x0, .int .i64 x1, .int .i64 x2, .int .i64 x3, .int .i64 x4, .bool x5] 33 ∧ Below W1.heap.size W1 W2 ∧ W2.heap.size = w.heap.size + 2 := ⟨_, rfl, blk_new _ _ _ _ (by omega), by go_grown, by simp; omega⟩
  obtain ⟨W3, hW3, X3, B3, Z3⟩ : ∃ W3, W2.alloc (.cells #[.slice none 0 0, .int .i64 0] 27) = W3 ∧ Blk W3 (w.heap.size + 2) #[.slice none 0 0, .int .i64 0] 27 ∧ Below W2.heap.size W2 W3 ∧ W3.heap.size = w.heap.size + 3 := ⟨_, rfl, blk_new _ _ _ _ (by omega), by go_grown, by simp; omega⟩
  have Y2 : Blk W3 (w.heap.size + 1) #[.int .i64 a0, .int .i64 x0, .int .i64 x1, .int .i64 x2, .int .i64 x3, .int .i64 x4, .bool x5] 33 := X2.below B3
  have Y1 : Blk W3 w.heap.size #[lv, .int .i64 B.nx] 27 := (X1.below B2).below B3
  have B13 : Below w.heap.size w W3 := (B1.trans (B2.mono (by omega))).trans (B3.mono (by omega))
  have HX3 : Hid _ := X3
  have HB3 : Hid _ := B13
  have HY2 : Hid _ := Y2
  have HZ : Hid (W3.heap.size = w.heap.size + 3) := Z3
  have O3 : Ods W3 lv B.os := Ods.below hl B13
  have y0 : W3.cell? ⟨w.heap.size, 0, none⟩ = some lv := Y1.cell rfl
  have y1 : W3.cell? ⟨w.heap.size, 1, none⟩ = some (.int .i64 B.nx) := Y1.cell rfl
  have c0 : W3.cell? ⟨w.heap.size + 1, 0, none⟩ = some (.int .i64 a0) := Y2.cell rfl
  have c1 : W3.cell? ⟨w.heap.size + 1, 1, none⟩ = some (.int .i64 x0) := Y2.cell rfl
  have c2 : W3.cell? ⟨w.heap.size + 1, 2, none⟩ = some (.int .i64 x1) := Y2.cell rfl
  have c3 : W3.cell? ⟨w.heap.size + 1, 3, none⟩ = some (.int .i64 x2) := Y2.cell rfl
  have c4 : W3.cell? ⟨w.heap.size + 1, 4, none⟩ = some (.int .i64 x3) := Y2.cell rfl
  have c5 : W3.cell? ⟨w.heap.size + 1, 5, none⟩ = some (.int .i64 x4) := Y2.cell rfl
  have c6 : W3.cell? ⟨w.heap.size + 1, 6, none⟩ = some (.bool x5) := Y2.cell rfl
  have hbd := arnd_bd a0
  obtain ⟨ar, har⟩ : ∃ ar, arnd a0 = ar := ⟨_, rfl⟩
  rw [har] at hbd
  have HAR : Hid _ := har
  have HAC := around_calls a0 W3
  rw [har] at HAC
  have HRA : Hid _ := refAmend_calls lv x0 x1 x2 x3 B h.inv W3 O3 _ rfl
  have HRN : Hid _ := refCancel_calls lv x0 x1 B h.inv W3 O3 _ rfl
  have HRC : Hid _ := refClear_calls lv B h.inv W3 O3
  have HRP : Hid _ := refPut_calls lv (x0, x1, x2, x3, x4, x5) B h.inv W3 O3 _ rfl
  obtain ⟨R, hR⟩ : ∃ R, w.heap.size + 2 = R := ⟨_, rfl⟩
  obtain ⟨act, HAT⟩ : ∃ act, Hid (B.act (a0, x0, x1, x2, x3, x4, x5) = act) := ⟨_, rfl⟩
  rw [HAT.out]
  have HAT2 : Hid _ := HAT
  clear X1 X2 X3 Y1 Y2 B1 B2 B3 B13 Z3 h hl hap O3 har
  by_cases t2 : ar = 2
  · subst t2
    obtain ⟨r, HRR⟩ : ∃ r, Hid (B.amend x0 x1 x2 x3 = r) := ⟨_, rfl⟩
    rw [HRR.out] at HRA
    have HACT : Hid (act = r.2) := by
      show _ = _
      rw [← HAT.out, ← HRR.out]
      unfold Bo.act
      rw [if_pos HAR.out]
      first | done | rfl
    have HC6 : Hid (∀ (W5 : World), Below w.heap.size w W5 → Calls Try.prog 10 #[.pointer (some ⟨p, 0, none⟩), .int .i64 x0, .int .i64 x1, .int .i64 x2, .int .i64 x3] W5 fun e w' => e = .returned (.int .i64 r.1) ∧ ∃ v', Bst W5 w' base p v v' r.2) := fun W5 hb => amend_calls x0 x1 x2 x3 W5 (Bk.below HK.out hb) (Nat.le_trans hB hb.size) _ HRR.out
    rw [HACT.out]
    clear HACT HAT HAT2
    go_enter Try.func5, Try.ntmps5
    go_wp2_with fail
    refine HAC.mono ?_
    rintro e wq ⟨rfl, hwq⟩
    obtain rfl : W3 = wq := hwq.symm
    go_wp2_with fail
    refine Calls.mono HRA.out ?_
    rintro e w4 ⟨lv', rfl, ho4, b4, own4⟩
    obtain ⟨la, lc, hlv, -⟩ := id ho4
    obtain ⟨n, hn⟩ : ∃ n, r.2.os.length = n := ⟨_, rfl⟩
    rw [hn] at hlv
    clear hn
    subst hlv
    have z4 := b4.size
    have hzz := HZ.out
    obtain ⟨nb, hnbe⟩ : ∃ nb, w4.heap.size = nb := ⟨_, rfl⟩
    obtain ⟨W5, hW5, X5, B5, Z5⟩ : ∃ W5, w4.alloc (.cells #[.slice la n lc, .int .i64 r.2.nx] 27) = W5 ∧ Blk W5 nb #[.slice la n lc, .int .i64 r.2.nx] 27 ∧ Below w4.heap.size w4 W5 ∧ W5.heap.size = nb + 1 := ⟨_, rfl, blk_new _ _ _ _ hnbe.symm, by go_grown, by simp; omega⟩
    have hb4 : Below w.heap.size w w4 := Below.trans HB3.out (b4.mono (by omega))
    have HB5 : Hid (Below w.heap.size w W5) := hb4.trans (B5.mono (by omega))
    have XA : Blk W5 (w.heap.size + 1) #[.int .i64 a0, .int .i64 x0, .int .i64 x1, .int .i64 x2, .int .i64 x3, .int .i64 x4, .bool x5] 33 := (Blk.below HY2.out b4).below B5
    have XR : Blk W5 R #[.slice none 0 0, .int .i64 0] 27 := by rw [← hR]; exact (Blk.below HX3.out b4).below B5
    have hnb : nb + 1 ≤ W5.heap.size := by omega
    have hnR : nb ≠ R := by omega
    have hnR1 : w.heap.size + 1 ≠ R := by omega
    have hnw : w.heap.size ≤ nb := by omega
    have hRw : w.heap.size ≤ R := by omega
    have hRn : R < nb + 1 := by omega
    have hR3 : R < W3.heap.size := by omega
    have HN0 : Hid (∀ wx, Rng w.heap.size (nb + 1) R W5 wx → wx.cell? ⟨nb, 0, none⟩ = some (.slice la n lc)) := fun wx hx => hx.cell (X5.cell rfl) hnw (Nat.lt_succ_self _) hnR
    have HN1 : Hid (∀ wx, Rng w.heap.size (nb + 1) R W5 wx → wx.cell? ⟨nb, 1, none⟩ = some (.int .i64 r.2.nx)) := fun wx hx => hx.cell (X5.cell rfl) hnw (Nat.lt_succ_self _) hnR
    have HD0 : Hid (∀ wx, Rng w.heap.size (nb + 1) R W5 wx → wx.cell? ⟨w.heap.size + 1, 1, none⟩ = some (.int .i64 x0)) := fun wx hx => hx.cell (XA.cell rfl) (by show w.heap.size ≤ w.heap.size + 1; omega) (by show w.heap.size + 1 < nb + 1; omega) hnR1
    have HD1 : Hid (∀ wx, Rng w.heap.size (nb + 1) R W5 wx → wx.cell? ⟨w.heap.size + 1, 2, none⟩ = some (.int .i64 x1)) := fun wx hx => hx.cell (XA.cell rfl) (by show w.heap.size ≤ w.heap.size + 1; omega) (by show w.heap.size + 1 < nb + 1; omega) hnR1
    have HD2 : Hid (∀ wx, Rng w.heap.size (nb + 1) R W5 wx → wx.cell? ⟨w.heap.size + 1, 3, none⟩ = some (.int .i64 x2)) := fun wx hx => hx.cell (XA.cell rfl) (by show w.heap.size ≤ w.heap.size + 1; omega) (by show w.heap.size + 1 < nb + 1; omega) hnR1
    have HD3 : Hid (∀ wx, Rng w.heap.size (nb + 1) R W5 wx → wx.cell? ⟨w.heap.size + 1, 4, none⟩ = some (.int .i64 x3)) := fun wx hx => hx.cell (XA.cell rfl) (by show w.heap.size ≤ w.heap.size + 1; omega) (by show w.heap.size + 1 < nb + 1; omega) hnR1
    have HD4 : Hid (∀ wx, Rng w.heap.size (nb + 1) R W5 wx → wx.cell? ⟨w.heap.size + 1, 5, none⟩ = some (.int .i64 x4)) := fun wx hx => hx.cell (XA.cell rfl) (by show w.heap.size ≤ w.heap.size + 1; omega) (by show w.heap.size + 1 < nb + 1; omega) hnR1
    have HD5 : Hid (∀ wx, Rng w.heap.size (nb + 1) R W5 wx → wx.cell? ⟨w.heap.size + 1, 6, none⟩ = some (.bool x5)) := fun wx hx => hx.cell (XA.cell rfl) (by show w.heap.size ≤ w.heap.size + 1; omega) (by show w.heap.size + 1 < nb + 1; omega) hnR1
    have HO4 : Hid _ := ho4
    have HW4 : Hid _ := own4
    have Hb4 : Hid _ := b4
    have HB54 : Hid _ := B5
    have HXR : Hid _ := XR
    clear ho4 own4 b4 B5 XA X5 y0 y1 c0 c1 c2 c3 c4 c5 c6 HX3 HY2 hb4 XR HAC HRA HRN HRC HRP
    go_wp2_with fail
    try rw [hR]
    clear hR hW5 Z1 Z2 hW1 hW2
    refine wp_region_held_drew (S := Rng w.heap.size (nb + 1) R W5) (by kernel_rfl) (Rng.start _ _ _ _) (fun hS => ?_)
    refine wpAnyH_take (i := 0) (v := (.agg #[.slice la n lc, .int .i64 r.2.nx])) rfl (by kernel_rfl) (by kernel_rfl) (by kernel_rfl) (fun _ _ _ h => h) (Or.inl ⟨by rfl, fun wx hS => by have s0 := HN0.out wx hS; have s1 := HN1.out wx hS; go_simp⟩) hS ?_
    refine wpAnyH_take (i := 1) (v := (.pointer (some ⟨p, 0, none⟩))) rfl (by kernel_rfl) (by kernel_rfl) (by kernel_rfl) (fun _ _ _ h => h) (Or.inl ⟨by rfl, fun wx hS => by go_simp⟩) hS ?_
    refine wpAnyH_take (i := 2) (v := (.pointer (some ⟨w.heap.size + 1, 1, none⟩))) rfl (by kernel_rfl) (by kernel_rfl) (by kernel_rfl) (fun _ _ _ h => h) (Or.inl ⟨by rfl, fun wx hS => by go_simp⟩) hS ?_
    refine wpAnyH_take (i := 3) (v := (.pointer (some ⟨w.heap.size + 1, 1, none⟩))) rfl (by kernel_rfl) (by kernel_rfl) (by kernel_rfl) (fun _ _ _ h => h) (Or.inl ⟨by rfl, fun wx hS => by go_simp⟩) hS ?_
    refine wpAnyH_take (i := 4) (v := (.int .i64 x0)) rfl (by kernel_rfl) (by kernel_rfl) (by kernel_rfl) (fun _ _ _ h => h) (Or.inl ⟨by rfl, fun wx hS => by have s0 := HD0.out wx hS; go_simp⟩) hS ?_
    refine wpAnyH_take (i := 5) (v := (.pointer (some ⟨w.heap.size + 1, 1, none⟩))) rfl (by kernel_rfl) (by kernel_rfl) (by kernel_rfl) (fun _ _ _ h => h) (Or.inl ⟨by rfl, fun wx hS => by go_simp⟩) hS ?_
    refine wpAnyH_take (i := 6) (v := (.pointer (some ⟨w.heap.size + 1, 2, none⟩))) rfl (by kernel_rfl) (by kernel_rfl) (by kernel_rfl) (fun _ _ _ h => h) (Or.inl ⟨by rfl, fun wx hS => by go_simp⟩) hS ?_
    refine wpAnyH_take (i := 7) (v := (.int .i64 x1)) rfl (by kernel_rfl) (by kernel_rfl) (by kernel_rfl) (fun _ _ _ h => h) (Or.inl ⟨by rfl, fun wx hS => by have s0 := HD1.out wx hS; go_simp⟩) hS ?_
    refine wpAnyH_take (i := 8) (v := (.pointer (some ⟨w.heap.size + 1, 1, none⟩))) rfl (by kernel_rfl) (by kernel_rfl) (by kernel_rfl) (fun _ _ _ h => h) (Or.inl ⟨by rfl, fun wx hS => by go_simp⟩) hS ?_
    refine wpAnyH_take (i := 9) (v := (.pointer (some ⟨w.heap.size + 1, 3, none⟩))) rfl (by kernel_rfl) (by kernel_rfl) (by kernel_rfl) (fun _ _ _ h => h) (Or.inl ⟨by rfl, fun wx hS => by go_simp⟩) hS ?_
    refine wpAnyH_take (i := 10) (v := (.int .i64 x2)) rfl (by kernel_rfl) (by kernel_rfl) (by kernel_rfl) (fun _ _ _ h => h) (Or.inl ⟨by rfl, fun wx hS => by have s0 := HD2.out wx hS; go_simp⟩) hS ?_
    refine wpAnyH_take (i := 11) (v := (.pointer (some ⟨w.heap.size + 1, 1, none⟩))) rfl (by kernel_rfl) (by kernel_rfl) (by kernel_rfl) (fun _ _ _ h => h) (Or.inl ⟨by rfl, fun wx hS => by go_simp⟩) hS ?_
    refine wpAnyH_take (i := 12) (v := (.pointer (some ⟨w.heap.size + 1, 4, none⟩))) rfl (by kernel_rfl) (by kernel_rfl) (by kernel_rfl) (fun _ _ _ h => h) (Or.inl ⟨by rfl, fun wx hS => by go_simp⟩) hS ?_
    refine wpAnyH_take (i := 13) (v := (.int .i64 x3)) rfl (by kernel_rfl) (by kernel_rfl) (by kernel_rfl) (fun _ _ _ h => h) (Or.inl ⟨by rfl, fun wx hS => by have s0 := HD3.out wx hS; go_simp⟩) hS ?_
    refine wpAnyH_take (i := 15) (v := (.int .i64 r.1)) rfl (by kernel_rfl) (by kernel_rfl) (by kernel_rfl) (fun _ _ _ h => h) (Or.inl ⟨by rfl, fun wx hS => by go_simp⟩) hS ?_
    refine wpAnyH_ready (rs := [14]) (by kernel_rfl) (by simp) ?_
    refine AllReadyH.cons rfl (fun K hK => ?_) AllReadyH.nil
    go_simp
    refine Calls.mono (HC6.out _ (Below.drew HB5.out)) ?_
    rintro e6 w6 ⟨rfl, v6, S6⟩
    refine hK.out _ _ (hS.ofb hnb hpl hvl S6.of) (fun hS => ?_)
    clear hK
    refine wpAnyH_take (i := 16) (v := (.bool true)) rfl (by kernel_rfl) (by kernel_rfl) (by kernel_rfl) (fun _ _ _ h => h) (Or.inl ⟨by rfl, fun wx hS => by go_simp⟩) hS ?_
    have XRw : Blk w6 R #[.slice none 0 0, .int .i64 0] 27 := Blk.ofb (Blk.drew HXR.out) S6.of (by omega) (fun e => by have := hvl R e; omega)
    obtain ⟨W9, hW9, X9, _⟩ := setRow_named XRw #[.slice la n lc, .int .i64 r.2.nx]
    refine wpAnyH_ready (rs := [17]) (by kernel_rfl) (by simp) ?_
    refine readyH_rowC 17 rfl (ty := 27) (x := .tmp 6) (y := .tmp 43) rfl rfl rfl R #[.slice la n lc, .int .i64 r.2.nx] (by kernel_rfl) (by kernel_rfl) 27 #[.slice none 0 0, .int .i64 0] XRw (infoBk2 _ _) rfl (oneBk2 _ _ _ _) (hS.row _) (fun hS => ?_)
    refine wpAnyH_ready (rs := [18]) (by kernel_rfl) (by simp) ?_
    refine AllReadyH.cons rfl (fun K hK => ?_) AllReadyH.nil
    go_simp
    try rw [hW9] at hS
    refine hK.out _ _ hS (fun hS => ?_)
    clear hK
    refine wpAnyH_done (by kernel_rfl) ?_ _
    try rw [hW9]
    go_wp2
    refine bodyPost_ret (v := .tuple #[.agg #[.slice la n lc, .int .i64 r.2.nx], .bool true]) (step_results X9 rfl rfl) rfl ?_
    have hend := step_end HK.out HAP.out hB HB3.out hRw hR3 Hb4.out HO4.out HW4.out (Below.drew HB54.out) S6 hW9
    exact ⟨_, v6, rfl, hend⟩
  · by_cases t3 : ar = 3
    · subst t3
      obtain ⟨r, HRR⟩ : ∃ r, Hid (B.cancel x0 x1 = r) := ⟨_, rfl⟩
      rw [HRR.out] at HRN
      have HACT : Hid (act = r.2) := by
        show _ = _
        rw [← HAT.out, ← HRR.out]
        unfold Bo.act
        rw [if_neg (by rw [HAR.out]; decide), if_pos HAR.out]
        first | done | rfl
      have HC6 : Hid (∀ (W5 : World), Below w.heap.size w W5 → Calls Try.prog 12 #[.pointer (some ⟨p, 0, none⟩), .int .i64 x0, .int .i64 x1] W5 fun e w' => e = .returned (.int .i64 r.1) ∧ ∃ v', Bst W5 w' base p v v' r.2) := fun W5 hb => cancel_calls x0 x1 W5 (Bk.below HK.out hb) _ HRR.out
      rw [HACT.out]
      clear HACT HAT HAT2
      go_enter Try.func5, Try.ntmps5
      go_wp2_with fail
      refine HAC.mono ?_
      rintro e wq ⟨rfl, hwq⟩
      obtain rfl : W3 = wq := hwq.symm
      go_wp2_with fail
      refine Calls.mono HRN.out ?_
      rintro e w4 ⟨lv', rfl, ho4, b4, own4⟩
      obtain ⟨la, lc, hlv, -⟩ := id ho4
      obtain ⟨n, hn⟩ : ∃ n, r.2.os.length = n := ⟨_, rfl⟩
      rw [hn] at hlv
      clear hn
      subst hlv
      have z4 := b4.size
      have hzz := HZ.out
      obtain ⟨nb, hnbe⟩ : ∃ nb, w4.heap.size = nb := ⟨_, rfl⟩
      obtain ⟨W5, hW5, X5, B5, Z5⟩ : ∃ W5, w4.alloc (.cells #[.slice la n lc, .int .i64 r.2.nx] 27) = W5 ∧ Blk W5 nb #[.slice la n lc, .int .i64 r.2.nx] 27 ∧ Below w4.heap.size w4 W5 ∧ W5.heap.size = nb + 1 := ⟨_, rfl, blk_new _ _ _ _ hnbe.symm, by go_grown, by simp; omega⟩
      have hb4 : Below w.heap.size w w4 := Below.trans HB3.out (b4.mono (by omega))
      have HB5 : Hid (Below w.heap.size w W5) := hb4.trans (B5.mono (by omega))
      have XA : Blk W5 (w.heap.size + 1) #[.int .i64 a0, .int .i64 x0, .int .i64 x1, .int .i64 x2, .int .i64 x3, .int .i64 x4, .bool x5] 33 := (Blk.below HY2.out b4).below B5
      have XR : Blk W5 R #[.slice none 0 0, .int .i64 0] 27 := by rw [← hR]; exact (Blk.below HX3.out b4).below B5
      have hnb : nb + 1 ≤ W5.heap.size := by omega
      have hnR : nb ≠ R := by omega
      have hnR1 : w.heap.size + 1 ≠ R := by omega
      have hnw : w.heap.size ≤ nb := by omega
      have hRw : w.heap.size ≤ R := by omega
      have hRn : R < nb + 1 := by omega
      have hR3 : R < W3.heap.size := by omega
      have HN0 : Hid (∀ wx, Rng w.heap.size (nb + 1) R W5 wx → wx.cell? ⟨nb, 0, none⟩ = some (.slice la n lc)) := fun wx hx => hx.cell (X5.cell rfl) hnw (Nat.lt_succ_self _) hnR
      have HN1 : Hid (∀ wx, Rng w.heap.size (nb + 1) R W5 wx → wx.cell? ⟨nb, 1, none⟩ = some (.int .i64 r.2.nx)) := fun wx hx => hx.cell (X5.cell rfl) hnw (Nat.lt_succ_self _) hnR
      have HD0 : Hid (∀ wx, Rng w.heap.size (nb + 1) R W5 wx → wx.cell? ⟨w.heap.size + 1, 1, none⟩ = some (.int .i64 x0)) := fun wx hx => hx.cell (XA.cell rfl) (by show w.heap.size ≤ w.heap.size + 1; omega) (by show w.heap.size + 1 < nb + 1; omega) hnR1
      have HD1 : Hid (∀ wx, Rng w.heap.size (nb + 1) R W5 wx → wx.cell? ⟨w.heap.size + 1, 2, none⟩ = some (.int .i64 x1)) := fun wx hx => hx.cell (XA.cell rfl) (by show w.heap.size ≤ w.heap.size + 1; omega) (by show w.heap.size + 1 < nb + 1; omega) hnR1
      have HD2 : Hid (∀ wx, Rng w.heap.size (nb + 1) R W5 wx → wx.cell? ⟨w.heap.size + 1, 3, none⟩ = some (.int .i64 x2)) := fun wx hx => hx.cell (XA.cell rfl) (by show w.heap.size ≤ w.heap.size + 1; omega) (by show w.heap.size + 1 < nb + 1; omega) hnR1
      have HD3 : Hid (∀ wx, Rng w.heap.size (nb + 1) R W5 wx → wx.cell? ⟨w.heap.size + 1, 4, none⟩ = some (.int .i64 x3)) := fun wx hx => hx.cell (XA.cell rfl) (by show w.heap.size ≤ w.heap.size + 1; omega) (by show w.heap.size + 1 < nb + 1; omega) hnR1
      have HD4 : Hid (∀ wx, Rng w.heap.size (nb + 1) R W5 wx → wx.cell? ⟨w.heap.size + 1, 5, none⟩ = some (.int .i64 x4)) := fun wx hx => hx.cell (XA.cell rfl) (by show w.heap.size ≤ w.heap.size + 1; omega) (by show w.heap.size + 1 < nb + 1; omega) hnR1
      have HD5 : Hid (∀ wx, Rng w.heap.size (nb + 1) R W5 wx → wx.cell? ⟨w.heap.size + 1, 6, none⟩ = some (.bool x5)) := fun wx hx => hx.cell (XA.cell rfl) (by show w.heap.size ≤ w.heap.size + 1; omega) (by show w.heap.size + 1 < nb + 1; omega) hnR1
      have HO4 : Hid _ := ho4
      have HW4 : Hid _ := own4
      have Hb4 : Hid _ := b4
      have HB54 : Hid _ := B5
      have HXR : Hid _ := XR
      clear ho4 own4 b4 B5 XA X5 y0 y1 c0 c1 c2 c3 c4 c5 c6 HX3 HY2 hb4 XR HAC HRA HRN HRC HRP
      go_wp2_with fail
      try rw [hR]
      clear hR hW5 Z1 Z2 hW1 hW2
      refine wp_region_held_drew (S := Rng w.heap.size (nb + 1) R W5) (by kernel_rfl) (Rng.start _ _ _ _) (fun hS => ?_)
      refine wpAnyH_take (i := 0) (v := (.agg #[.slice la n lc, .int .i64 r.2.nx])) rfl (by kernel_rfl) (by kernel_rfl) (by kernel_rfl) (fun _ _ _ h => h) (Or.inl ⟨by rfl, fun wx hS => by have s0 := HN0.out wx hS; have s1 := HN1.out wx hS; go_simp⟩) hS ?_
      refine wpAnyH_take (i := 1) (v := (.pointer (some ⟨p, 0, none⟩))) rfl (by kernel_rfl) (by kernel_rfl) (by kernel_rfl) (fun _ _ _ h => h) (Or.inl ⟨by rfl, fun wx hS => by go_simp⟩) hS ?_
      refine wpAnyH_take (i := 2) (v := (.pointer (some ⟨w.heap.size + 1, 1, none⟩))) rfl (by kernel_rfl) (by kernel_rfl) (by kernel_rfl) (fun _ _ _ h => h) (Or.inl ⟨by rfl, fun wx hS => by go_simp⟩) hS ?_
      refine wpAnyH_take (i := 3) (v := (.pointer (some ⟨w.heap.size + 1, 1, none⟩))) rfl (by kernel_rfl) (by kernel_rfl) (by kernel_rfl) (fun _ _ _ h => h) (Or.inl ⟨by rfl, fun wx hS => by go_simp⟩) hS ?_
      refine wpAnyH_take (i := 4) (v := (.int .i64 x0)) rfl (by kernel_rfl) (by kernel_rfl) (by kernel_rfl) (fun _ _ _ h => h) (Or.inl ⟨by rfl, fun wx hS => by have s0 := HD0.out wx hS; go_simp⟩) hS ?_
      refine wpAnyH_take (i := 5) (v := (.pointer (some ⟨w.heap.size + 1, 1, none⟩))) rfl (by kernel_rfl) (by kernel_rfl) (by kernel_rfl) (fun _ _ _ h => h) (Or.inl ⟨by rfl, fun wx hS => by go_simp⟩) hS ?_
      refine wpAnyH_take (i := 6) (v := (.pointer (some ⟨w.heap.size + 1, 2, none⟩))) rfl (by kernel_rfl) (by kernel_rfl) (by kernel_rfl) (fun _ _ _ h => h) (Or.inl ⟨by rfl, fun wx hS => by go_simp⟩) hS ?_
      refine wpAnyH_take (i := 7) (v := (.int .i64 x1)) rfl (by kernel_rfl) (by kernel_rfl) (by kernel_rfl) (fun _ _ _ h => h) (Or.inl ⟨by rfl, fun wx hS => by have s0 := HD1.out wx hS; go_simp⟩) hS ?_
      refine wpAnyH_take (i := 9) (v := (.int .i64 r.1)) rfl (by kernel_rfl) (by kernel_rfl) (by kernel_rfl) (fun _ _ _ h => h) (Or.inl ⟨by rfl, fun wx hS => by go_simp⟩) hS ?_
      refine wpAnyH_ready (rs := [8]) (by kernel_rfl) (by simp) ?_
      refine AllReadyH.cons rfl (fun K hK => ?_) AllReadyH.nil
      go_simp
      refine Calls.mono (HC6.out _ (Below.drew HB5.out)) ?_
      rintro e6 w6 ⟨rfl, v6, S6⟩
      refine hK.out _ _ (hS.ofb hnb hpl hvl S6.of) (fun hS => ?_)
      clear hK
      refine wpAnyH_take (i := 10) (v := (.bool true)) rfl (by kernel_rfl) (by kernel_rfl) (by kernel_rfl) (fun _ _ _ h => h) (Or.inl ⟨by rfl, fun wx hS => by go_simp⟩) hS ?_
      have XRw : Blk w6 R #[.slice none 0 0, .int .i64 0] 27 := Blk.ofb (Blk.drew HXR.out) S6.of (by omega) (fun e => by have := hvl R e; omega)
      obtain ⟨W9, hW9, X9, _⟩ := setRow_named XRw #[.slice la n lc, .int .i64 r.2.nx]
      refine wpAnyH_ready (rs := [11]) (by kernel_rfl) (by simp) ?_
      refine readyH_rowC 11 rfl (ty := 27) (x := .tmp 6) (y := .tmp 73) rfl rfl rfl R #[.slice la n lc, .int .i64 r.2.nx] (by kernel_rfl) (by kernel_rfl) 27 #[.slice none 0 0, .int .i64 0] XRw (infoBk2 _ _) rfl (oneBk2 _ _ _ _) (hS.row _) (fun hS => ?_)
      refine wpAnyH_ready (rs := [12]) (by kernel_rfl) (by simp) ?_
      refine AllReadyH.cons rfl (fun K hK => ?_) AllReadyH.nil
      go_simp
      try rw [hW9] at hS
      refine hK.out _ _ hS (fun hS => ?_)
      clear hK
      refine wpAnyH_done (by kernel_rfl) ?_ _
      try rw [hW9]
      go_wp2
      refine bodyPost_ret (v := .tuple #[.agg #[.slice la n lc, .int .i64 r.2.nx], .bool true]) (step_results X9 rfl rfl) rfl ?_
      have hend := step_end HK.out HAP.out hB HB3.out hRw hR3 Hb4.out HO4.out HW4.out (Below.drew HB54.out) S6 hW9
      exact ⟨_, v6, rfl, hend⟩
    · by_cases t4 : ar = 4
      · subst t4
        obtain ⟨r, HRR⟩ : ∃ r : Int × Bo, Hid ((0, B.clr) = r) := ⟨_, rfl⟩
        have HACT : Hid (act = r.2) := by
          show _ = _
          rw [← HAT.out, ← HRR.out]
          unfold Bo.act
          rw [if_neg (by rw [HAR.out]; decide), if_neg (by rw [HAR.out]; decide), if_pos HAR.out]
          first | done | rfl
        have HNX : Hid (r.2.nx = B.nx) := by show _ = _; rw [← HRR.out]; rfl
        have HOS : Hid (B.clr.os = r.2.os) := by show _ = _; rw [← HRR.out]
        have hfl : B.fl.length ≤ 100000 := by
          have hlen := (BInv.len HI.out)
          have := fT_len B.os (crs B.os).1 (crs B.os).2 2 hlen
          rw [fT_end _ _ _ hlen] at this
          unfold Bo.fl; omega
        have HC6 : Hid (∀ (W5 : World), Below w.heap.size w W5 → Calls Try.prog 14 #[.pointer (some ⟨p, 0, none⟩)] W5 fun e w' => ∃ vF v', e = .returned (.tuple #[.int .i64 (crs B.os).1, .int .i64 (crs B.os).2, vF]) ∧ w'.ownsRow W5.heap.size 62 3 vF B.fl.length (fiL B.fl) ∧ Bst W5 w' base p v v' r.2) := fun W5 hb => by
          rw [← HRR.out]
          exact clear_calls W5 (Bk.below HK.out hb) (Nat.le_trans hB hb.size)
        rw [HACT.out]
        have HRC2 : Hid (Calls Try.prog 13 #[.agg #[lv, .int .i64 B.nx]] W3 fun e w' => ∃ lv' vf, e = .returned (.tuple #[.agg #[lv', .int .i64 r.2.nx], .int .i64 (crs B.os).1, .int .i64 (crs B.os).2, vf]) ∧ w'.ownsRow W3.heap.size 31 6 lv' r.2.os.length (odL r.2.os) ∧ w'.ownsRow W3.heap.size 62 3 vf B.fl.length (fiL B.fl) ∧ Below W3.heap.size W3 w') := by
          rw [← HRR.out]
          exact HRC.out
        clear HRC
        generalize (crs B.os).1 = cp at *
        generalize (crs B.os).2 = cn at *
        clear HACT HAT HAT2
        go_enter Try.func5, Try.ntmps5
        go_wp2_with fail
        refine HAC.mono ?_
        rintro e wq ⟨rfl, hwq⟩
        obtain rfl : W3 = wq := hwq.symm
        go_wp2_with fail
        refine Calls.mono HRC2.out ?_
        rintro e w4 ⟨lv', vf, rfl, olv4, ofl4, b4⟩
        have ho4 : Ods w4 lv' r.2.os := ods_own olv4
        have own4 : ∀ k, lv'.ownBlock = some k → lv.ownBlock = some k ∨ (W3.heap.size ≤ k ∧ k < w4.heap.size) := fun k hk => Or.inr (olv4.lt k hk)
        have HOF4 : Hid _ := ofl4
        obtain ⟨fa, fc, rfl⟩ := own_form ofl4
        clear olv4 ofl4
        obtain ⟨la, lc, hlv, -⟩ := id ho4
        obtain ⟨n, hn⟩ : ∃ n, r.2.os.length = n := ⟨_, rfl⟩
        rw [hn] at hlv
        clear hn
        subst hlv
        have z4 := b4.size
        have hzz := HZ.out
        obtain ⟨nb, hnbe⟩ : ∃ nb, w4.heap.size = nb := ⟨_, rfl⟩
        obtain ⟨W5, hW5, X5, B5, Z5⟩ : ∃ W5, w4.alloc (.cells #[.slice la n lc, .int .i64 r.2.nx] 27) = W5 ∧ Blk W5 nb #[.slice la n lc, .int .i64 r.2.nx] 27 ∧ Below w4.heap.size w4 W5 ∧ W5.heap.size = nb + 1 := ⟨_, rfl, blk_new _ _ _ _ hnbe.symm, by go_grown, by simp; omega⟩
        have hb4 : Below w.heap.size w w4 := Below.trans HB3.out (b4.mono (by omega))
        have HB5 : Hid (Below w.heap.size w W5) := hb4.trans (B5.mono (by omega))
        have XA : Blk W5 (w.heap.size + 1) #[.int .i64 a0, .int .i64 x0, .int .i64 x1, .int .i64 x2, .int .i64 x3, .int .i64 x4, .bool x5] 33 := (Blk.below HY2.out b4).below B5
        have XR : Blk W5 R #[.slice none 0 0, .int .i64 0] 27 := by rw [← hR]; exact (Blk.below HX3.out b4).below B5
        have hnb : nb + 1 ≤ W5.heap.size := by omega
        have hnR : nb ≠ R := by omega
        have hnR1 : w.heap.size + 1 ≠ R := by omega
        have hnw : w.heap.size ≤ nb := by omega
        have hRw : w.heap.size ≤ R := by omega
        have hRn : R < nb + 1 := by omega
        have hR3 : R < W3.heap.size := by omega
        have HN0 : Hid (∀ wx, Rng w.heap.size (nb + 1) R W5 wx → wx.cell? ⟨nb, 0, none⟩ = some (.slice la n lc)) := fun wx hx => hx.cell (X5.cell rfl) hnw (Nat.lt_succ_self _) hnR
        have HN1 : Hid (∀ wx, Rng w.heap.size (nb + 1) R W5 wx → wx.cell? ⟨nb, 1, none⟩ = some (.int .i64 r.2.nx)) := fun wx hx => hx.cell (X5.cell rfl) hnw (Nat.lt_succ_self _) hnR
        have HD0 : Hid (∀ wx, Rng w.heap.size (nb + 1) R W5 wx → wx.cell? ⟨w.heap.size + 1, 1, none⟩ = some (.int .i64 x0)) := fun wx hx => hx.cell (XA.cell rfl) (by show w.heap.size ≤ w.heap.size + 1; omega) (by show w.heap.size + 1 < nb + 1; omega) hnR1
        have HD1 : Hid (∀ wx, Rng w.heap.size (nb + 1) R W5 wx → wx.cell? ⟨w.heap.size + 1, 2, none⟩ = some (.int .i64 x1)) := fun wx hx => hx.cell (XA.cell rfl) (by show w.heap.size ≤ w.heap.size + 1; omega) (by show w.heap.size + 1 < nb + 1; omega) hnR1
        have HD2 : Hid (∀ wx, Rng w.heap.size (nb + 1) R W5 wx → wx.cell? ⟨w.heap.size + 1, 3, none⟩ = some (.int .i64 x2)) := fun wx hx => hx.cell (XA.cell rfl) (by show w.heap.size ≤ w.heap.size + 1; omega) (by show w.heap.size + 1 < nb + 1; omega) hnR1
        have HD3 : Hid (∀ wx, Rng w.heap.size (nb + 1) R W5 wx → wx.cell? ⟨w.heap.size + 1, 4, none⟩ = some (.int .i64 x3)) := fun wx hx => hx.cell (XA.cell rfl) (by show w.heap.size ≤ w.heap.size + 1; omega) (by show w.heap.size + 1 < nb + 1; omega) hnR1
        have HD4 : Hid (∀ wx, Rng w.heap.size (nb + 1) R W5 wx → wx.cell? ⟨w.heap.size + 1, 5, none⟩ = some (.int .i64 x4)) := fun wx hx => hx.cell (XA.cell rfl) (by show w.heap.size ≤ w.heap.size + 1; omega) (by show w.heap.size + 1 < nb + 1; omega) hnR1
        have HD5 : Hid (∀ wx, Rng w.heap.size (nb + 1) R W5 wx → wx.cell? ⟨w.heap.size + 1, 6, none⟩ = some (.bool x5)) := fun wx hx => hx.cell (XA.cell rfl) (by show w.heap.size ≤ w.heap.size + 1; omega) (by show w.heap.size + 1 < nb + 1; omega) hnR1
        have HO4 : Hid _ := ho4
        have HW4 : Hid _ := own4
        have Hb4 : Hid _ := b4
        have HB54 : Hid _ := B5
        have HXR : Hid _ := XR
        clear ho4 own4 b4 B5 XA X5 y0 y1 c0 c1 c2 c3 c4 c5 c6 HX3 HY2 hb4 XR HAC HRA HRN HRC2 HRP
        go_wp2_with fail
        try rw [hR]
        refine Calls.mono (HC6.out _ HB5.out) ?_
        rintro e w6 ⟨vF, v6, rfl, ofl6, S6⟩
        obtain ⟨ga, gc, rfl⟩ := own_form ofl6
        have HOF6 : Hid _ := ofl6
        have RG6 : Rng w.heap.size (nb + 1) R W5 w6 := (show Rng w.heap.size (nb + 1) R W5 W5 from ⟨Nat.le_refl _, fun _ _ _ _ => rfl⟩).ofb hnb hpl hvl S6.of
        have HG6 : Hid _ := RG6
        have XRw : Blk w6 R #[.slice none 0 0, .int .i64 0] 27 := Blk.ofb HXR.out S6.of (by omega) (fun e => by have := hvl R e; omega)
        have HOFB : Hid (w6.ownsRow W3.heap.size 62 3 (.slice fa B.fl.length fc) B.fl.length (fiL B.fl)) := by
          refine own_ofb (ownB HOF4.out HB54.out) S6.of (fun k hk => ?_)
          have := World.ownsRow.lt HOF4.out k hk
          have e3 : w.heap.size + 3 = W3.heap.size := by omega
          exact ⟨by omega, fun e => by have := hvl k e; omega⟩
        have HSF : Hid (∀ wx, Below w6.heap.size w6 wx → Calls Try.prog 15 #[.slice fa B.fl.length fc, .slice ga B.fl.length gc] wx fun e w' => e = .returned (.bool true) ∧ Below wx.heap.size wx w') := fun wx hb => sameFills_same _ _ B.fl _ _ wx (ownB HOFB.out hb) (ownB HOF6.out hb) hfl
        have HXRw : Hid _ := XRw
        clear ofl6 RG6 XRw HC6
        go_wp2_with fail
        try rw [hR]
        clear hR hW5 Z1 Z2 hW1 hW2
        refine wp_region_held_drew (S := (fun wx => Rng w.heap.size (nb + 1) R W5 wx)) (by kernel_rfl) (Rng.below HG6.out hnb (Below.refl _ _).drew) (fun hS => ?_)
        refine wpAnyH_take (i := 0) (v := (.agg #[.slice la n lc, .int .i64 r.2.nx])) rfl (by kernel_rfl) (by kernel_rfl) (by kernel_rfl) (fun _ _ _ h => h) (Or.inl ⟨by rfl, fun wx hS => by have s0 := HN0.out wx hS; have s1 := HN1.out wx hS; go_simp⟩) hS ?_
        refine wpAnyH_take (i := 1) (v := (.int .i64 cp)) rfl (by kernel_rfl) (by kernel_rfl) (by kernel_rfl) (fun _ _ _ h => h) (Or.inl ⟨by rfl, fun wx hS => by go_simp⟩) hS ?_
        refine wpAnyH_take (i := 2) (v := (.int .i64 cp)) rfl (by kernel_rfl) (by kernel_rfl) (by kernel_rfl) (fun _ _ _ h => h) (Or.inl ⟨by rfl, fun wx hS => by go_simp⟩) hS ?_
        refine wpAnyH_take (i := 3) (v := (.bool true)) rfl (by kernel_rfl) (by kernel_rfl) (by kernel_rfl) (fun _ _ _ h => h) (Or.inl ⟨by rfl, fun wx hS => by go_simp⟩) hS ?_
        refine wpAnyH_take (i := 4) (v := (.bool true)) rfl (by kernel_rfl) (by kernel_rfl) (by kernel_rfl) (fun _ _ _ h => h) (Or.inl ⟨by rfl, fun wx hS => by go_simp⟩) hS ?_
        refine wpAnyH_take (i := 5) (v := (.int .i64 cn)) rfl (by kernel_rfl) (by kernel_rfl) (by kernel_rfl) (fun _ _ _ h => h) (Or.inl ⟨by kernel_rfl, fun wx hS => by go_simp⟩) hS ?_
        refine wpAnyH_take (i := 6) (v := (.int .i64 cn)) rfl (by kernel_rfl) (by kernel_rfl) (by kernel_rfl) (fun _ _ _ h => h) (Or.inl ⟨by kernel_rfl, fun wx hS => by go_simp⟩) hS ?_
        refine wpAnyH_take (i := 7) (v := (.bool true)) rfl (by kernel_rfl) (by kernel_rfl) (by kernel_rfl) (fun _ _ _ h => h) (Or.inl ⟨by kernel_rfl, fun wx hS => by go_simp⟩) hS ?_
        refine wpAnyH_take (i := 8) (v := (.bool true)) rfl (by kernel_rfl) (by kernel_rfl) (by kernel_rfl) (fun _ _ _ h => h) (Or.inl ⟨by rfl, fun wx hS => by go_simp⟩) hS ?_
        refine wpAnyH_take (i := 9) (v := (.bool true)) rfl (by kernel_rfl) (by kernel_rfl) (by kernel_rfl) (fun _ _ _ h => h) (Or.inl ⟨by rfl, fun wx hS => by go_simp⟩) hS ?_
        refine wpAnyH_take (i := 10) (v := (.slice fa B.fl.length fc)) rfl (by kernel_rfl) (by kernel_rfl) (by kernel_rfl) (fun _ _ _ h => h) (Or.inl ⟨by kernel_rfl, fun wx hS => by go_simp⟩) hS ?_
        refine wpAnyH_take (i := 11) (v := (.slice ga B.fl.length gc)) rfl (by kernel_rfl) (by kernel_rfl) (by kernel_rfl) (fun _ _ _ h => h) (Or.inl ⟨by kernel_rfl, fun wx hS => by go_simp⟩) hS ?_
        refine wpAnyH_ready (rs := [12]) (by kernel_rfl) (by simp) ?_
        refine readyH_callK (i := 12) rfl (by kernel_rfl) (fun K hK => ?_)
        go_simp
        refine Calls.mono (HSF.out _ (Below.refl _ _).drew) ?_
        rintro e7 w7 ⟨rfl, b7⟩
        refine hK.out _ _ (hS.below hnb b7) (fun hS => ?_)
        clear hK
        refine wpAnyH_take (i := 13) (v := (.bool true)) rfl (by kernel_rfl) (by kernel_rfl) (by kernel_rfl) (fun _ _ _ h => h) (Or.inl ⟨by rfl, fun wx hS => by go_simp⟩) hS ?_
        have S7 : Bst W5 w7 base p v v6 r.2 := S6.after ((Below.refl _ _).drew.trans b7)
        have XR7 : Blk w7 R #[.slice none 0 0, .int .i64 0] 27 := Blk.below (Blk.drew HXRw.out) b7
        obtain ⟨W9, hW9, X9, _⟩ := setRow_named XR7 #[.slice la n lc, .int .i64 r.2.nx]
        refine wpAnyH_ready (rs := [14]) (by kernel_rfl) (by simp) ?_
        refine readyH_rowC 14 rfl (ty := 27) (x := .tmp 6) (y := .tmp 99) rfl rfl rfl R #[.slice la n lc, .int .i64 r.2.nx] (by kernel_rfl) (by kernel_rfl) 27 #[.slice none 0 0, .int .i64 0] XR7 (infoBk2 _ _) rfl (oneBk2 _ _ _ _) (hS.row _) (fun hS => ?_)
        refine wpAnyH_ready (rs := [15]) (by kernel_rfl) (by simp) ?_
        refine AllReadyH.cons rfl (fun K hK => ?_) AllReadyH.nil
        go_simp
        try rw [hW9] at hS
        refine hK.out _ _ hS (fun hS => ?_)
        clear hK
        refine wpAnyH_done (by kernel_rfl) ?_ _
        try rw [hW9]
        go_wp2
        refine bodyPost_ret (v := .tuple #[.agg #[.slice la n lc, .int .i64 r.2.nx], .bool true]) (step_results X9 rfl rfl) rfl ?_
        have hend := step_end HK.out HAP.out hB HB3.out hRw hR3 Hb4.out HO4.out HW4.out HB54.out S7 hW9
        exact ⟨_, v6, rfl, hend⟩
      · have s2 : (ar == 2) = false := by simpa using t2
        have s3 : (ar == 3) = false := by simpa using t3
        have s4 : (ar == 4) = false := by simpa using t4
        have T2 : Hid (arnd a0 ≠ 2) := fun h => t2 (by rw [← HAR.out]; exact h)
        have T3 : Hid (arnd a0 ≠ 3) := fun h => t3 (by rw [← HAR.out]; exact h)
        have T4 : Hid (arnd a0 ≠ 4) := fun h => t4 (by rw [← HAR.out]; exact h)
        clear t2 t3 t4
        obtain ⟨r, HRR⟩ : ∃ r, Hid (B.put (x0, x1, x2, x3, x4, x5) = r) := ⟨_, rfl⟩
        rw [HRR.out] at HRP
        have HACT : Hid (act = r.2) := by
          show _ = _
          rw [← HAT.out, ← HRR.out]
          unfold Bo.act
          rw [if_neg T2.out, if_neg T3.out, if_neg T4.out]
          first | done | rfl
        have HC6 : Hid (∀ (W5 : World), Below w.heap.size w W5 → Calls Try.prog 17 #[.pointer (some ⟨p, 0, none⟩), .agg #[.int .i64 x0, .int .i64 x1, .int .i64 x2, .int .i64 x3, .int .i64 x4, .bool x5]] W5 fun e w' => e = .returned (.int .i64 r.1) ∧ ∃ v', Bst W5 w' base p v v' r.2) := fun W5 hb => put_calls (x0, x1, x2, x3, x4, x5) W5 (Bk.below HK.out hb) (Nat.le_trans hB hb.size) _ HRR.out
        rw [HACT.out]
        clear HACT HAT HAT2
        go_enter Try.func5, Try.ntmps5
        go_wp2_with fail
        refine HAC.mono ?_
        rintro e wq ⟨rfl, hwq⟩
        obtain rfl : W3 = wq := hwq.symm
        go_wp2_with fail
        refine Calls.mono HRP.out ?_
        rintro e w4 ⟨lv', rfl, ho4, b4, own4⟩
        obtain ⟨la, lc, hlv, -⟩ := id ho4
        obtain ⟨n, hn⟩ : ∃ n, r.2.os.length = n := ⟨_, rfl⟩
        rw [hn] at hlv
        clear hn
        subst hlv
        have z4 := b4.size
        have hzz := HZ.out
        obtain ⟨nb, hnbe⟩ : ∃ nb, w4.heap.size = nb := ⟨_, rfl⟩
        obtain ⟨W5, hW5, X5, B5, Z5⟩ : ∃ W5, w4.alloc (.cells #[.slice la n lc, .int .i64 r.2.nx] 27) = W5 ∧ Blk W5 nb #[.slice la n lc, .int .i64 r.2.nx] 27 ∧ Below w4.heap.size w4 W5 ∧ W5.heap.size = nb + 1 := ⟨_, rfl, blk_new _ _ _ _ hnbe.symm, by go_grown, by simp; omega⟩
        have hb4 : Below w.heap.size w w4 := Below.trans HB3.out (b4.mono (by omega))
        have HB5 : Hid (Below w.heap.size w W5) := hb4.trans (B5.mono (by omega))
        have XA : Blk W5 (w.heap.size + 1) #[.int .i64 a0, .int .i64 x0, .int .i64 x1, .int .i64 x2, .int .i64 x3, .int .i64 x4, .bool x5] 33 := (Blk.below HY2.out b4).below B5
        have XR : Blk W5 R #[.slice none 0 0, .int .i64 0] 27 := by rw [← hR]; exact (Blk.below HX3.out b4).below B5
        have hnb : nb + 1 ≤ W5.heap.size := by omega
        have hnR : nb ≠ R := by omega
        have hnR1 : w.heap.size + 1 ≠ R := by omega
        have hnw : w.heap.size ≤ nb := by omega
        have hRw : w.heap.size ≤ R := by omega
        have hRn : R < nb + 1 := by omega
        have hR3 : R < W3.heap.size := by omega
        have HN0 : Hid (∀ wx, Rng w.heap.size (nb + 1) R W5 wx → wx.cell? ⟨nb, 0, none⟩ = some (.slice la n lc)) := fun wx hx => hx.cell (X5.cell rfl) hnw (Nat.lt_succ_self _) hnR
        have HN1 : Hid (∀ wx, Rng w.heap.size (nb + 1) R W5 wx → wx.cell? ⟨nb, 1, none⟩ = some (.int .i64 r.2.nx)) := fun wx hx => hx.cell (X5.cell rfl) hnw (Nat.lt_succ_self _) hnR
        have HD0 : Hid (∀ wx, Rng w.heap.size (nb + 1) R W5 wx → wx.cell? ⟨w.heap.size + 1, 1, none⟩ = some (.int .i64 x0)) := fun wx hx => hx.cell (XA.cell rfl) (by show w.heap.size ≤ w.heap.size + 1; omega) (by show w.heap.size + 1 < nb + 1; omega) hnR1
        have HD1 : Hid (∀ wx, Rng w.heap.size (nb + 1) R W5 wx → wx.cell? ⟨w.heap.size + 1, 2, none⟩ = some (.int .i64 x1)) := fun wx hx => hx.cell (XA.cell rfl) (by show w.heap.size ≤ w.heap.size + 1; omega) (by show w.heap.size + 1 < nb + 1; omega) hnR1
        have HD2 : Hid (∀ wx, Rng w.heap.size (nb + 1) R W5 wx → wx.cell? ⟨w.heap.size + 1, 3, none⟩ = some (.int .i64 x2)) := fun wx hx => hx.cell (XA.cell rfl) (by show w.heap.size ≤ w.heap.size + 1; omega) (by show w.heap.size + 1 < nb + 1; omega) hnR1
        have HD3 : Hid (∀ wx, Rng w.heap.size (nb + 1) R W5 wx → wx.cell? ⟨w.heap.size + 1, 4, none⟩ = some (.int .i64 x3)) := fun wx hx => hx.cell (XA.cell rfl) (by show w.heap.size ≤ w.heap.size + 1; omega) (by show w.heap.size + 1 < nb + 1; omega) hnR1
        have HD4 : Hid (∀ wx, Rng w.heap.size (nb + 1) R W5 wx → wx.cell? ⟨w.heap.size + 1, 5, none⟩ = some (.int .i64 x4)) := fun wx hx => hx.cell (XA.cell rfl) (by show w.heap.size ≤ w.heap.size + 1; omega) (by show w.heap.size + 1 < nb + 1; omega) hnR1
        have HD5 : Hid (∀ wx, Rng w.heap.size (nb + 1) R W5 wx → wx.cell? ⟨w.heap.size + 1, 6, none⟩ = some (.bool x5)) := fun wx hx => hx.cell (XA.cell rfl) (by show w.heap.size ≤ w.heap.size + 1; omega) (by show w.heap.size + 1 < nb + 1; omega) hnR1
        have HO4 : Hid _ := ho4
        have HW4 : Hid _ := own4
        have Hb4 : Hid _ := b4
        have HB54 : Hid _ := B5
        have HXR : Hid _ := XR
        clear ho4 own4 b4 B5 XA X5 y0 y1 c0 c1 c2 c3 c4 c5 c6 HX3 HY2 hb4 XR HAC HRA HRN HRC HRP
        go_wp2_with fail
        try rw [hR]
        clear hR hW5 Z1 Z2 hW1 hW2
        refine wp_region_held_drew (S := Rng w.heap.size (nb + 1) R W5) (by kernel_rfl) (Rng.start _ _ _ _) (fun hS => ?_)
        refine wpAnyH_take (i := 0) (v := (.agg #[.slice la n lc, .int .i64 r.2.nx])) rfl (by kernel_rfl) (by kernel_rfl) (by kernel_rfl) (fun _ _ _ h => h) (Or.inl ⟨by rfl, fun wx hS => by have s0 := HN0.out wx hS; have s1 := HN1.out wx hS; go_simp⟩) hS ?_
        refine wpAnyH_take (i := 1) (v := (.pointer (some ⟨p, 0, none⟩))) rfl (by kernel_rfl) (by kernel_rfl) (by kernel_rfl) (fun _ _ _ h => h) (Or.inl ⟨by rfl, fun wx hS => by go_simp⟩) hS ?_
        refine wpAnyH_take (i := 2) (v := (.pointer (some ⟨w.heap.size + 1, 1, none⟩))) rfl (by kernel_rfl) (by kernel_rfl) (by kernel_rfl) (fun _ _ _ h => h) (Or.inl ⟨by rfl, fun wx hS => by go_simp⟩) hS ?_
        refine wpAnyH_take (i := 3) (v := (.agg #[.int .i64 x0, .int .i64 x1, .int .i64 x2, .int .i64 x3, .int .i64 x4, .bool x5])) rfl (by kernel_rfl) (by kernel_rfl) (by kernel_rfl) (fun _ _ _ h => h) (Or.inl ⟨by rfl, fun wx hS => by have s0 := HD0.out wx hS; have s1 := HD1.out wx hS; have s2 := HD2.out wx hS; have s3 := HD3.out wx hS; have s4 := HD4.out wx hS; have s5 := HD5.out wx hS; go_simp⟩) hS ?_
        refine wpAnyH_take (i := 5) (v := (.int .i64 r.1)) rfl (by kernel_rfl) (by kernel_rfl) (by kernel_rfl) (fun _ _ _ h => h) (Or.inl ⟨by rfl, fun wx hS => by go_simp⟩) hS ?_
        refine wpAnyH_ready (rs := [4]) (by kernel_rfl) (by simp) ?_
        refine AllReadyH.cons rfl (fun K hK => ?_) AllReadyH.nil
        go_simp
        refine Calls.mono (HC6.out _ (Below.drew HB5.out)) ?_
        rintro e6 w6 ⟨rfl, v6, S6⟩
        refine hK.out _ _ (hS.ofb hnb hpl hvl S6.of) (fun hS => ?_)
        clear hK
        refine wpAnyH_take (i := 6) (v := (.bool true)) rfl (by kernel_rfl) (by kernel_rfl) (by kernel_rfl) (fun _ _ _ h => h) (Or.inl ⟨by rfl, fun wx hS => by go_simp⟩) hS ?_
        have XRw : Blk w6 R #[.slice none 0 0, .int .i64 0] 27 := Blk.ofb (Blk.drew HXR.out) S6.of (by omega) (fun e => by have := hvl R e; omega)
        obtain ⟨W9, hW9, X9, _⟩ := setRow_named XRw #[.slice la n lc, .int .i64 r.2.nx]
        refine wpAnyH_ready (rs := [7]) (by kernel_rfl) (by simp) ?_
        refine readyH_rowC 7 rfl (ty := 27) (x := .tmp 6) (y := .tmp 120) rfl rfl rfl R #[.slice la n lc, .int .i64 r.2.nx] (by kernel_rfl) (by kernel_rfl) 27 #[.slice none 0 0, .int .i64 0] XRw (infoBk2 _ _) rfl (oneBk2 _ _ _ _) (hS.row _) (fun hS => ?_)
        refine wpAnyH_ready (rs := [8]) (by kernel_rfl) (by simp) ?_
        refine AllReadyH.cons rfl (fun K hK => ?_) AllReadyH.nil
        go_simp
        try rw [hW9] at hS
        refine hK.out _ _ hS (fun hS => ?_)
        clear hK
        refine wpAnyH_done (by kernel_rfl) ?_ _
        try rw [hW9]
        go_wp2
        refine bodyPost_ret (v := .tuple #[.agg #[.slice la n lc, .int .i64 r.2.nx], .bool true]) (step_results X9 rfl rfl) rfl ?_
        have hend := step_end HK.out HAP.out hB HB3.out hRw hR3 Hb4.out HO4.out HW4.out (Below.drew HB54.out) S6 hW9
        exact ⟨_, v6, rfl, hend⟩
end Go.Proofs.Ytglbfeccdibmiaa

namespace Go.Proofs.Ytglbfeccdibmiaa
open Go.RowKit
set_option linter.unusedSimpArgs false
set_option linter.unusedVariables false
variable {base p : Nat} {v : Value} {B : Bo}
structure StepQ (a b : World) (base p : Nat) (v v1 lv lv1 : Value) (B1 : Bo) (q : Nat) : Prop where
  st : Bst a b base p v v1 B1
  od : Ods b lv1 B1.os
  ap : Apd lv1 p v1 b
  own : ∀ k, lv1.ownBlock = some k → lv.ownBlock = some k ∨ a.heap.size ≤ k
  bq : Blk b q #[lv1, .int .i64 B1.nx] 27
  q1 : a.heap.size ≤ q
  q2 : v1.ownBlock ≠ some q
  q3 : lv1.ownBlock ≠ some q
theorem ofb_first {a b c : World} (h : Below a.heap.size a b) (k : Ofb p v b c) : Ofb p v a c := (Ofb.of_below h).trans (fun q hq => Or.inl hq) k
theorem ofb_rowNew {a b : World} {q : Nat} (h : Ofb p v a b) (hq : a.heap.size ≤ q) (cs : Array Value) : Ofb p v a (b.setRow q cs) :=
  ⟨h.os, h.tape, h.output, by simpa using h.size, fun k hk h1 h2 => (setRow_other b q k cs (by omega)).trans (h.block k hk h1 h2)⟩
theorem stepq_a {lv lv1 v1 : Value} {B1 : Bo} {WA w6 : World} {zs : Array Value} {t : TypeId} (hpv : p < WA.heap.size ∧ ∀ k, v.ownBlock = some k → k < WA.heap.size) (hap : Apd lv p v WA ∧ base ≤ WA.heap.size) (od1 : Ods w6 lv1 B1.os) (S1 : Bst (WA.drew.alloc (.cells zs t)) w6 base p v v1 B1) (ap1 : Apd lv1 p v1 w6) (ow1 : ∀ k, lv1.ownBlock = some k → lv.ownBlock = some k ∨ (WA.drew.alloc (.cells zs t)).heap.size ≤ k)
    (X : Blk w6 WA.heap.size #[.slice none 0 0, .int .i64 0] 27 := by assumption) : StepQ WA (w6.setRow WA.heap.size #[lv1, .int .i64 B1.nx]) base p v v1 lv lv1 B1 WA.heap.size := by
  have e1 : (WA.drew.alloc (.cells zs t)).heap.size = WA.heap.size + 1 := by simp
  have hb : Below WA.heap.size WA (WA.drew.alloc (.cells zs t)) := ((Below.refl _ _).drew).alloc (Nat.le_refl _) _
  have hv1 : v1.ownBlock ≠ some WA.heap.size := fun e => by
    rcases S1.at_ _ e with h | h
    · have := hpv.2 _ h; omega
    · omega
  have hl1 : lv1.ownBlock ≠ some WA.heap.size := fun e => by
    rcases ow1 _ e with h | h
    · have := (hap.1 _ h).2.2; omega
    · omega
  refine ⟨(Bst.first hb S1).row rfl (Nat.le_refl _) (by omega) hv1 hap.2, od1.row rfl hl1, fun k hk => ?_, fun k hk => ?_, X.setRow _, Nat.le_refl _, hv1, hl1⟩
  · have := ap1 k hk
    exact ⟨this.1, this.2.1, by have e := this.2.2; simpa using e⟩
  · rcases ow1 k hk with h | h
    · exact Or.inl h
    · exact Or.inr (by omega)
theorem stepq_b {lv lv1 v1 : Value} {B1 : Bo} {WA w6 : World} {zs : Array Value} (hpv : p < WA.heap.size ∧ ∀ k, v.ownBlock = some k → k < WA.heap.size) (hap : Apd lv p v WA ∧ base ≤ WA.heap.size) (od1 : Ods w6 lv1 B1.os) (S1 : Bst WA.drew w6 base p v v1 B1) (ap1 : Apd lv1 p v1 w6) (ow1 : ∀ k, lv1.ownBlock = some k → lv.ownBlock = some k ∨ WA.drew.heap.size ≤ k)
    (X : Blk (w6.alloc (.cells zs 27)) w6.heap.size zs 27 := blk_new _ _ _ _ rfl) : StepQ WA ((w6.alloc (.cells zs 27)).setRow w6.heap.size #[lv1, .int .i64 B1.nx]) base p v v1 lv lv1 B1 w6.heap.size := by
  have z6 : WA.heap.size ≤ w6.heap.size := S1.of.size
  have hb : Below w6.heap.size w6 (w6.alloc (.cells zs 27)) := (Below.refl _ _).alloc (Nat.le_refl _) _
  have hv1 : v1.ownBlock ≠ some w6.heap.size := fun e => by have := (S1.bk.row.lt _ e).2; omega
  have hl1 : lv1.ownBlock ≠ some w6.heap.size := fun e => by have := (ap1 _ e).2.2; omega
  have hp6 := S1.bk.blk.lt
  refine ⟨((Bst.first (Below.refl _ _).drew S1).after hb).row rfl z6 (by omega) hv1 hap.2, (od1.below hb).row rfl hl1, fun k hk => ?_, fun k hk => ?_, X.setRow _, z6, hv1, hl1⟩
  · have := ap1 k hk
    exact ⟨this.1, this.2.1, by have e := this.2.2; simp; omega⟩
  · exact ow1 k hk
end Go.Proofs.Ytglbfeccdibmiaa

namespace Go.Proofs.Ytglbfeccdibmiaa
open Go.RowKit
set_option linter.unusedSimpArgs false
set_option linter.unusedVariables false
variable {v lv : Value} {B : Bo}
/-- A book beside the document's. -/
structure Pl (w : World) (T : Nat) (wr : World) (v lv : Value) (B : Bo) : Prop where
  kb : Bk wr w.heap.size w.heap.size v B
  rb : Blk wr T #[lv, .int .i64 B.nx] 27
  od : Ods wr lv B.os
  a1 : Apd lv w.heap.size v wr
  t1 : T ≠ w.heap.size
  t3 : v.ownBlock ≠ some T
  t5 : lv.ownBlock ≠ some T
  lo : Below w.heap.size w wr
theorem bk_offP {base p : Nat} {v : Value} {w w' : World} {g : Nat} (h : Bk w base p v B) (o : Off g w w') (h1 : p ≠ g) (h2 : v.ownBlock ≠ some g) : Bk w' base p v B :=
  ⟨Blk.off h.blk o h1, World.ownsRow.kept h.row (offBy o) (Or.inr h2), h.le, h.ne, h.inv⟩
section
variable {w wr wa : World} {T q : Nat} {v1 lv1 : Value} {B1 : Bo}
theorem Pl.below {wx : World} (L : Pl w T wr v lv B) (h : Below wr.heap.size wr wx) : Pl w T wx v lv B :=
  ⟨L.kb.below h, L.rb.below h, L.od.below h, fun k hk => ⟨(L.a1 k hk).1, (L.a1 k hk).2.1, Nat.lt_of_lt_of_le (L.a1 k hk).2.2 h.size⟩, L.t1, L.t3, L.t5, L.lo.trans (h.mono L.lo.size)⟩
theorem Pl.next (L : Pl w T wr v lv B) (hT : w.heap.size ≤ T) (Q : StepQ wr wa w.heap.size w.heap.size v v1 lv lv1 B1 q) :
    Blk wa T #[lv, .int .i64 B.nx] 27 ∧ ∀ wc, wa.setRow T #[lv1, .int .i64 B1.nx] = wc → Pl w T wc v1 lv1 B1 := by
  have Tl := L.rb.lt
  have q1 := Q.q1
  have v1T : v1.ownBlock ≠ some T := fun e => by
    rcases Q.st.at_ T e with h | h
    · exact L.t3 h
    · omega
  have lv1T : lv1.ownBlock ≠ some T := fun e => by
    rcases Q.own T e with h | h
    · exact L.t5 h
    · omega
  have rb2 := Blk.ofb L.rb Q.st.of L.t1 L.t3
  refine ⟨rb2, fun wc hW => ?_⟩
  have o : Off T wa wc := by rw [← hW]; exact (Off.refl _ _).setRow _
  have e9 := row_size hW
  have lo1 : Below w.heap.size w wa := Q.st.below L.kb L.lo L.lo.size
  refine ⟨bk_offP Q.st.bk o (Ne.symm L.t1) v1T, by rw [← hW]; exact rb2.setRow _, Q.od.row hW lv1T, fun k hk => ?_, L.t1, v1T, lv1T, below_row lo1 hW hT⟩
  have := Q.ap k hk
  exact ⟨this.1, this.2.1, by have := this.2.2; omega⟩
end
set_option maxHeartbeats 8000000 in
set_option maxRecDepth 100000 in
theorem plays_calls (sv : Value) (l : List Ac) (x : Int) (w : World) (hl : Acs w sv l) (hn : l.length * 56 ≤ 140737488351232) :
    Calls Try.prog 3 #[sv, .int .i64 x] w fun e w' => e = .returned (.bool true) ∧ Below w.heap.size w w' := by
  have HA : Hid _ := awake_calls
  obtain ⟨ad, cap, rfl, hc⟩ := Elems.any hl
  have HM : Hid _ := hc
  clear hc hl
  go_enter Try.func3, Try.ntmps3
  go_wp2_with fail
  refine (new_calls w).mono ?_
  rintro e w1 ⟨rfl, K1, b1⟩
  obtain ⟨nl, hnl⟩ : ∃ nl : Value, nl = .slice none 0 0 := ⟨_, rfl⟩
  obtain ⟨W0, hW0, X0, B0⟩ : ∃ W0, w1.alloc (.cells #[.slice none 0 0, .int .i64 1] 27) = W0 ∧ Blk W0 w1.heap.size #[.slice none 0 0, .int .i64 1] 27 ∧ Below w1.heap.size w1 W0 := ⟨_, rfl, blk_new _ _ _ _ rfl, by go_grown⟩
  obtain ⟨T, hT⟩ : ∃ T, w1.heap.size = T := ⟨_, rfl⟩
  have hk1 := K1.blk.lt
  have z1 := b1.size
  have L0 : Pl w T W0 (.slice none 0 0) (.slice none 0 0) ⟨1, []⟩ := by
    rw [hT] at X0
    exact ⟨K1.below B0, X0, ⟨none, 0, rfl, Or.inl rfl⟩, fun k hk => (by cases hk), by omega, fun e => (by cases e), fun e => (by cases e), b1.trans (B0.mono z1)⟩
  have HL0 : Hid _ := L0
  have hTw : w.heap.size ≤ T := by omega
  clear K1 b1 X0 B0 L0 hnl hk1 z1
  go_wp2_with fail
  try rw [hT]
  clear hW0 hT
  go_loopw [7] (fun i wr => ∃ (k : Nat) (B' : Bo) (v lv : Value), k ≤ l.length ∧ k ≤ 120 ∧ i = .int .i64 k ∧ Hid (Pl w T wr v lv B')) (fun i _ => 120 - (intOf i).toNat)
  case atStart => exact ⟨0, _, _, _, Nat.zero_le _, Nat.zero_le _, rfl, HL0.out⟩
  case round =>
    clear HL0
    obtain ⟨k, B', v, lv, hk, hk20, rfl, HL⟩ := hrel
    by_cases hlt : k < l.length
    · have hd : decide ((k : Int) < (l.length : Int)) = true := by simp only [decide_eq_true_eq]; omega
      have hkl : (k : Int) < (l.length : Int) := by omega
      by_cases hlt2 : k < 120
      · have hd2 : decide ((k : Int) < 120) = true := by simp only [decide_eq_true_eq]; omega
        obtain ⟨g, off, rfl, -, hgl, hcs, -⟩ := HM.out k hlt
        obtain ⟨a, ha⟩ : ∃ a, l[k] = a := ⟨_, rfl⟩
        rw [ha] at hcs
        obtain ⟨a0, x0, x1, x2, x3, x4, x5⟩ := a
        obtain ⟨wa, rfl⟩ : ∃ wa, wa = wr := ⟨wr, rfl⟩
        have LL := HL.out
        have HPV : Hid (w.heap.size < wa.heap.size ∧ ∀ k, v.ownBlock = some k → k < wa.heap.size) := ⟨LL.kb.blk.lt, fun k hk => (LL.kb.row.lt k hk).2⟩
        have HAW : Hid (Apd lv w.heap.size v wa ∧ w.heap.size ≤ wa.heap.size) := ⟨LL.a1, LL.lo.size⟩
        obtain ⟨B1, hB1⟩ : ∃ B1, B'.act (a0, x0, x1, x2, x3, x4, x5) = B1 := ⟨_, rfl⟩
        have HST : Hid (∀ W5, Below wa.heap.size wa W5 → Calls Try.prog 5 #[.pointer (some ⟨w.heap.size, 0, none⟩), .agg #[lv, .int .i64 B'.nx], .agg #[.int .i64 a0, .int .i64 x0, .int .i64 x1, .int .i64 x2, .int .i64 x3, .int .i64 x4, .bool x5]] W5 (StepP lv W5 w.heap.size w.heap.size v B1)) := fun W5 hb => by
          have := step_calls lv a0 x0 x1 x2 x3 x4 x5 W5 (LL.kb.below hb) (Nat.le_trans LL.lo.size hb.size) (LL.od.below hb) (fun k hk => ⟨(LL.a1 k hk).1, (LL.a1 k hk).2.1, Nat.lt_of_lt_of_le (LL.a1 k hk).2.2 hb.size⟩)
          rw [hB1] at this
          exact this
        have HS0 : Hid (∀ wx, Ofb w.heap.size v wa wx → wx.cell? ⟨T, 0, none⟩ = some lv) := fun wx hx => hx.cell (LL.rb.cell rfl) LL.t1 LL.t3
        have HS1 : Hid (∀ wx, Ofb w.heap.size v wa wx → wx.cell? ⟨T, 1, none⟩ = some (.int .i64 B'.nx)) := fun wx hx => hx.cell (LL.rb.cell rfl) LL.t1 LL.t3
        have hgv : v.ownBlock ≠ some g := fun e => by have := LL.kb.rowb g e; omega
        have hgc : ∀ j u, (acC (a0, x0, x1, x2, x3, x4, x5))[j]? = some u → wa.cell? ⟨g, off + k * 7 + j, none⟩ = some u := fun j u hu => (LL.lo.cell (p := ⟨g, off + k * 7 + j, none⟩) hgl).trans (hcs j u hu)
        have HD0 : Hid (∀ wx, Ofb w.heap.size v wa wx → wx.cell? ⟨g, off + k * 7, none⟩ = some (.int .i64 a0)) := fun wx hx => hx.cell (hgc 0 _ rfl) (by show g ≠ _; omega) hgv
        have HD1 : Hid (∀ wx, Ofb w.heap.size v wa wx → wx.cell? ⟨g, off + k * 7 + 1, none⟩ = some (.int .i64 x0)) := fun wx hx => hx.cell (hgc 1 _ rfl) (by show g ≠ _; omega) hgv
        have HD2 : Hid (∀ wx, Ofb w.heap.size v wa wx → wx.cell? ⟨g, off + k * 7 + 2, none⟩ = some (.int .i64 x1)) := fun wx hx => hx.cell (hgc 2 _ rfl) (by show g ≠ _; omega) hgv
        have HD3 : Hid (∀ wx, Ofb w.heap.size v wa wx → wx.cell? ⟨g, off + k * 7 + 3, none⟩ = some (.int .i64 x2)) := fun wx hx => hx.cell (hgc 3 _ rfl) (by show g ≠ _; omega) hgv
        have HD4 : Hid (∀ wx, Ofb w.heap.size v wa wx → wx.cell? ⟨g, off + k * 7 + 4, none⟩ = some (.int .i64 x3)) := fun wx hx => hx.cell (hgc 4 _ rfl) (by show g ≠ _; omega) hgv
        have HD5 : Hid (∀ wx, Ofb w.heap.size v wa wx → wx.cell? ⟨g, off + k * 7 + 5, none⟩ = some (.int .i64 x4)) := fun wx hx => hx.cell (hgc 5 _ rfl) (by show g ≠ _; omega) hgv
        have HD6 : Hid (∀ wx, Ofb w.heap.size v wa wx → wx.cell? ⟨g, off + k * 7 + 6, none⟩ = some (.bool x5)) := fun wx hx => hx.cell (hgc 6 _ rfl) (by show g ≠ _; omega) hgv
        clear LL hcs ha hgc
        go_upto_region 7 with fail
        go_cut [8, 9] (fun s13 s14 wx => s14 = .bool true ∧ ∃ q lv1 v1, s13 = .pointer (some ⟨q, 0, none⟩) ∧ StepQ wa wx w.heap.size w.heap.size v v1 lv lv1 B1 q)
        case first =>
          refine wp_region_held_drew (S := (fun wx => Ofb w.heap.size v wa wx)) (by kernel_rfl) (Ofb.of_below (Below.refl _ _).drew) (fun hS => ?_)
          refine wpAnyH_take (i := 0) (v := (.pointer (some ⟨w.heap.size, 0, none⟩))) rfl (by kernel_rfl) (by kernel_rfl) (by kernel_rfl) (fun _ _ _ h => h) (Or.inl ⟨by rfl, fun wx hS => by go_simp⟩) hS ?_
          refine wpAnyH_take (i := 1) (v := (.agg #[lv, .int .i64 B'.nx])) rfl (by kernel_rfl) (by kernel_rfl) (by kernel_rfl) (fun _ _ _ h => h) (Or.inl ⟨by rfl, fun wx hS => by have s0 := HS0.out wx hS; have s1 := HS1.out wx hS; go_simp⟩) hS ?_
          refine wpAnyH_take (i := 2) (v := (.slice (some ⟨g, off, none⟩) l.length cap)) rfl (by kernel_rfl) (by kernel_rfl) (by kernel_rfl) (fun _ _ _ h => h) (Or.inl ⟨by rfl, fun wx hS => by go_simp⟩) hS ?_
          refine wpAnyH_take (i := 3) (v := (.int .i64 k)) rfl (by kernel_rfl) (by kernel_rfl) (by kernel_rfl) (fun _ _ _ h => h) (Or.inl ⟨by rfl, fun wx hS => by go_simp⟩) hS ?_
          refine wpAnyH_take (i := 4) (v := (.pointer (some ⟨g, off + k * 7, none⟩))) rfl (by kernel_rfl) (by kernel_rfl) (by kernel_rfl) (fun _ _ _ h => h) (Or.inl ⟨by rfl, fun wx hS => by go_simp⟩) hS ?_
          refine wpAnyH_take (i := 5) (v := (.agg #[.int .i64 a0, .int .i64 x0, .int .i64 x1, .int .i64 x2, .int .i64 x3, .int .i64 x4, .bool x5])) rfl (by kernel_rfl) (by kernel_rfl) (by kernel_rfl) (fun _ _ _ h => h) (Or.inl ⟨by rfl, fun wx hS => by have s0 := HD0.out wx hS; have s1 := HD1.out wx hS; have s2 := HD2.out wx hS; have s3 := HD3.out wx hS; have s4 := HD4.out wx hS; have s5 := HD5.out wx hS; have s6 := HD6.out wx hS; go_simp⟩) hS ?_
          refine wpAnyH_ready (rs := [6, 10]) (by kernel_rfl) (by simp) ?_
          refine AllReadyH.cons rfl (fun K hK => ?_) (AllReadyH.cons rfl (fun K hK => ?_) AllReadyH.nil)
          · go_simp
            refine Calls.mono (HST.out _ (Below.refl _ _).drew) ?_
            rintro e6 w6 ⟨lv1, v1, rfl, od1, S1, ap1, ow1⟩
            have z6 := S1.of.size
            have z7 : wa.heap.size ≤ w6.heap.size := z6
            refine hK.out _ _ (ofb_first (Below.refl _ _).drew S1.of) (fun hS => ?_)
            clear hK
            refine wpAnyH_take (i := 7) (v := (.tuple #[.agg #[lv1, .int .i64 B1.nx], .bool true])) rfl (by kernel_rfl) (by kernel_rfl) (by kernel_rfl) (fun _ _ _ h => h) (Or.inl ⟨by rfl, fun wx hS => by go_simp⟩) hS ?_
            refine wpAnyH_take (i := 8) (v := (.agg #[lv1, .int .i64 B1.nx])) rfl (by kernel_rfl) (by kernel_rfl) (by kernel_rfl) (fun _ _ _ h => h) (Or.inl ⟨by rfl, fun wx hS => by go_simp⟩) hS ?_
            refine wpAnyH_take (i := 9) (v := (.bool true)) rfl (by kernel_rfl) (by kernel_rfl) (by kernel_rfl) (fun _ _ _ h => h) (Or.inl ⟨by rfl, fun wx hS => by go_simp⟩) hS ?_
            refine wpAnyH_ready (rs := [10]) (by kernel_rfl) (by simp) ?_
            refine AllReadyH.cons rfl (fun K hK => ?_) AllReadyH.nil
            go_simp
            refine hK.out _ _ (ofb_alloc hS _) (fun hS => ?_)
            clear hK
            refine wpAnyH_ready (rs := [11]) (by kernel_rfl) (by simp) ?_
            refine readyH_rowC 11 rfl (ty := 27) (x := .tmp 8) (y := .tmp 32) rfl rfl rfl _ #[lv1, .int .i64 B1.nx] (by kernel_rfl) (by kernel_rfl) 27 #[.slice none 0 0, .int .i64 0] (blk_new w6 w6.heap.size _ _ rfl) (infoBk2 _ _) rfl (oneBkO od1 _) (ofb_rowNew hS (by omega) _) (fun hS => ?_)
            refine wpAnyH_ready (rs := [12]) (by kernel_rfl) (by simp) ?_
            refine AllReadyH.cons rfl (fun K hK => ?_) AllReadyH.nil
            go_simp
            refine hK.out _ _ hS (fun hS => ?_)
            clear hK
            refine wpAnyH_done (by kernel_rfl) ?_ _
            go_wp2_with fail
            go_meet
            exact ⟨rfl, _, lv1, v1, rfl, stepq_b HPV.out HAW.out od1 S1 ap1 ow1⟩
          · go_simp
            refine hK.out _ _ (ofb_alloc hS _) (fun hS => ?_)
            clear hK
            refine wpAnyH_ready (rs := [6]) (by kernel_rfl) (by simp) ?_
            refine AllReadyH.cons rfl (fun K hK => ?_) AllReadyH.nil
            go_simp
            refine Calls.mono (HST.out _ (((Below.refl _ _).drew).alloc (Nat.le_refl _) _)) ?_
            rintro e6 w6 ⟨lv1, v1, rfl, od1, S1, ap1, ow1⟩
            refine hK.out _ _ (ofb_first (((Below.refl _ _).drew).alloc (Nat.le_refl _) _) S1.of) (fun hS => ?_)
            clear hK
            refine wpAnyH_take (i := 7) (v := (.tuple #[.agg #[lv1, .int .i64 B1.nx], .bool true])) rfl (by kernel_rfl) (by kernel_rfl) (by kernel_rfl) (fun _ _ _ h => h) (Or.inl ⟨by rfl, fun wx hS => by go_simp⟩) hS ?_
            refine wpAnyH_take (i := 8) (v := (.agg #[lv1, .int .i64 B1.nx])) rfl (by kernel_rfl) (by kernel_rfl) (by kernel_rfl) (fun _ _ _ h => h) (Or.inl ⟨by rfl, fun wx hS => by go_simp⟩) hS ?_
            refine wpAnyH_take (i := 9) (v := (.bool true)) rfl (by kernel_rfl) (by kernel_rfl) (by kernel_rfl) (fun _ _ _ h => h) (Or.inl ⟨by rfl, fun wx hS => by go_simp⟩) hS ?_
            have XQ : Blk w6 wa.heap.size #[.slice none 0 0, .int .i64 0] 27 := Blk.ofb (blk_new wa.drew wa.heap.size _ _ rfl) S1.of (by have := HPV.out.1; omega) (fun e => by have := HPV.out.2 _ e; omega)
            refine wpAnyH_ready (rs := [11]) (by kernel_rfl) (by simp) ?_
            refine readyH_rowC 11 rfl (ty := 27) (x := .tmp 8) (y := .tmp 32) rfl rfl rfl _ #[lv1, .int .i64 B1.nx] (by kernel_rfl) (by kernel_rfl) 27 #[.slice none 0 0, .int .i64 0] XQ (infoBk2 _ _) rfl (oneBkO od1 _) (ofb_rowNew hS (by omega) _) (fun hS => ?_)
            refine wpAnyH_ready (rs := [12]) (by kernel_rfl) (by simp) ?_
            refine AllReadyH.cons rfl (fun K hK => ?_) AllReadyH.nil
            go_simp
            refine hK.out _ _ hS (fun hS => ?_)
            clear hK
            refine wpAnyH_done (by kernel_rfl) ?_ _
            go_wp2_with fail
            go_meet
            exact ⟨rfl, _, lv1, v1, rfl, stepq_a HPV.out HAW.out od1 S1 ap1 ow1⟩
        case rest =>
          obtain ⟨rfl, q, lv1, v1n, rfl, Q1⟩ := hcut
          rename World => wb
          have LN := Pl.next HL.out hTw Q1
          have od3 := Q1.od
          have R2 := Q1.bq
          obtain ⟨R1, LX⟩ := LN
          obtain ⟨la1, lc1, rfl, -⟩ := id od3
          have d0 : wb.cell? ⟨q, 0, none⟩ = some (.slice la1 B1.os.length lc1) := R2.cell rfl
          have d1 : wb.cell? ⟨q, 1, none⟩ = some (.int .i64 B1.nx) := R2.cell rfl
          obtain ⟨W9, hW9, X9, _⟩ := setRow_named R1 #[.slice la1 B1.os.length lc1, .int .i64 B1.nx]
          have HL9 : Hid _ := LX W9 hW9
          have HLK : Hid _ := like_calls (.slice la1 B1.os.length lc1) x W9 (Pl.kb HL9.out) (Pl.od HL9.out)
          have g0 : W9.cell? ⟨T, 0, none⟩ = some (.slice la1 B1.os.length lc1) := X9.cell rfl
          have g1 : W9.cell? ⟨T, 1, none⟩ = some (.int .i64 B1.nx) := X9.cell rfl
          clear LX Q1 HST HS0 HS1 HD0 HD1 HD2 HD3 HD4 HD5 HD6 HPV HAW HL R2 od3
          go_wp2_with ((with_reducible refine st_row (ty := 27) R1 (infoBk2 _ _) (sameBk2 _ _ _ _) (oneBk2 _ _ _ _) hW9 ?_ ?_ ?_); kernel_rfl; kernel_rfl)
          refine Calls.mono HLK.out ?_
          rintro e we ⟨rfl, be1⟩
          have HLE : Hid _ := Pl.below HL9.out be1
          clear be1
          go_wp2_with fail
          exact ⟨⟨k + 1, B1, _, _, by omega, by omega, by norm_cast, HLE.out⟩, by simp [intOf]; omega⟩
      · have hd2 : decide ((k : Int) < 120) = false := by simp only [decide_eq_false_iff_not]; omega
        have hB9 : Below w.heap.size w wr := HL.out.lo
        go_wp2_with fail
        refine (HA.out _).mono ?_
        rintro e w8 ⟨rfl, b8⟩
        go_wp2
        go_ret
        exact ⟨rfl, hB9.trans (b8.mono hB9.size)⟩
    · have hd : decide ((k : Int) < (l.length : Int)) = false := by simp only [decide_eq_false_iff_not]; omega
      have hkl : ¬ (k : Int) < (l.length : Int) := by omega
      have hB9 : Below w.heap.size w wr := HL.out.lo
      go_wp2_with fail
      refine (HA.out _).mono ?_
      rintro e w8 ⟨rfl, b8⟩
      go_wp2
      go_ret
      exact ⟨rfl, hB9.trans (b8.mono hB9.size)⟩
end Go.Proofs.Ytglbfeccdibmiaa

namespace Go.Proofs.Ytglbfeccdibmiaa
open Go.ChangeShapes Go.WideShapes Go.ChangeAt Go.RowKit
open Go.ChangeMaps (open_string shut_string)
set_option linter.unusedVariables false

set_option maxRecDepth 100000 in
theorem callPlays_lifted (os : Os) (started : os.Started) (H : Type) (enc : TypeId × Value → H) :
    ReturnsInHanded {} Try.checked os 3 .any (Rows.callPlaysSpec.pre6 enc Try.prog Try.f3 Rows.callPlaysRow.domain false) (Rows.callPlaysSpec.post enc Try.prog Try.f3 false true false false) := by
  refine returnsInHanded_of_change_sized (C := Try.checked) own_knob started (by kernel_rfl) Try.func3
    (ChangeSpec.witness6 (enc := enc) (C := Try.checked) false ⟨#[], #[.slice none 0 0, .int .i64 0], []⟩ 8 (by kernel_rfl) (by kernel_rfl) (by kernel_rfl) (by kernel_rfl)) ?_
  intro W base args ds gs before hval0 hW hcnd hsz0 _
  have hval : ∀ (j : Nat) t v, Try.f3.params[j]? = some t → args[j]? = some v → Value.okWide Try.prog W .any base t v := hval0
  have hW' := hW
  obtain ⟨p, q, hA0, hV, rfl, hfz, hnd⟩ := hW
  have hA : DataW.TrodAll enc Try.prog W 0 (fun _ => true) true Try.f3.params.toList args.toList ds p := hA0
  rw [Try.params3] at hA hval
  obtain ⟨v0, vs0, d0, ds0, p0, q0, hargs, rfl, rfl, h0, r0⟩ := trodAll_cons hA
  obtain ⟨v1, vs1, d1, ds1, p1, q1, rfl, rfl, rfl, h1, r1⟩ := trodAll_cons r0
  obtain ⟨rfl, rfl, rfl⟩ := trodAll_nil r1
  obtain rfl : args = #[v0, v1] := by cases args; simp_all
  obtain ⟨rfl, rfl⟩ := trodVars_none hV
  obtain ⟨a1, rfl, rfl, rfl, w1⟩ := open_int Try.underlying3 (hval 1 3 v1 rfl rfl) h1
  clear hA0
  try simp only [List.append_nil] at hW'
  try simp only [List.nil_append] at hW'
  have hsz1 : (DataW.weightsEach Try.prog [22, 3] [d0, .lit (.int .i64 a1)]).all (· ≤ reachBytes) = true := hsz0
  have hszb0 : (DataW.weights Try.prog 22 d0).all (· ≤ reachBytes) = true := List.all_eq_true.2 fun m hm => List.all_eq_true.1 hsz1 m (DataW.weights_mem_each (j := 0) (t := 22) (d := d0) rfl rfl m hm)
  have hlt0 : ∀ x ∈ p0, x.block < W.heap.size := fun x hx => by simpa using hW'.lt x (by simp [hx])
  have hcell0 : v0.cells = #[v0] := by
    obtain ⟨p', n', c', rfl⟩ := okWide_slice Try.underlying22 (hval 0 22 v0 rfl rfl)
    rfl
  obtain ⟨l0, hl0, zl0⟩ := open_acs hcell0 h0 hszb0 hlt0
  refine (plays_calls v0 l0 a1 W hl0 zl0).mono fun e W' ⟨he, hg⟩ => ?_
  subst he
  have harg := trodAll_cons_mk (Below.trod prog_laid (by kernel_rfl) (of_decide_eq_true (by kernel_rfl)) h0 hg hlt0) (trodAll_cons_mk (shut_int Try.underlying3 w1) (trodAll_mk0 (enc := enc) (P := Try.prog) (w := W') (base := 0) (spare := fun b => decide (b < W.heap.size)) (held := true)))
  try simp only [List.append_nil] at harg
  try simp only [List.nil_append] at harg
  exact ⟨_, rfl, _, _, _, [], p0, [], hW', trodAll_cons_mk (shut_bool Try.underlying4 _) trodAll_mk0,
    harg, rfl,
    hg.frame _, fun h => by cases h⟩

theorem callPlays_holds : Rows.CallPlaysSaid :=
  OpenClaim.holds_of_wide 3 Try.f3 rfl rfl rfl rfl rfl rfl rfl ⟨rfl, rfl, rfl, rfl, rfl⟩ rfl rfl rfl rfl rfl (by kernel_rfl) Try.func3 (by kernel_rfl)
    (of_decide_eq_true (by kernel_rfl)) (by unfold Func.isWrapper; first | (rw [if_pos (by decide +kernel)]; kernel_rfl) | (rw [if_neg (by decide +kernel)]; exact ⟨rfl, rfl⟩))
    (fun os started H enc _ => callPlays_lifted os started H enc)
#print axioms callPlays_holds
end Go.Proofs.Ytglbfeccdibmiaa
