/- A book's own numbers are such as one can have: pure. -/
import Derived.Test.YtlhfdgeknpmdfaaCaOe
import Derived.Test.YtlhfdgeknpmdfaaCx3
import Derived.Test.YtlhfdgeknpmdfaaCx1
import Derived.Test.YtlhfdgeknpmdfaaCx2
import Derived.Test.YtlhfdgeknpmdfaaCaS
import Derived.Test.YtlhfdgeknpmdfaaCaX
import Derived.Test.YtlhfdgeknpmdfaaOpS
import Derived.OpenShut
namespace Go.Proofs.Ytlhfdgeknpmdfaa
open Go.RowKit
set_option linter.unusedSimpArgs false
set_option linter.unusedVariables false
variable {B : Bo}

theorem odN_len (o : Od) : (odN o).length = 6 := rfl
theorem fm_get : ∀ (l : List Od) (j : Nat) (o : Od) (r : Nat), l[j]? = some o → r < 6 → (l.flatMap odN)[6 * j + r]? = (odN o)[r]?
  | x :: l, 0, o, r, h, hr => by
    have e : x = o := by simpa using h
    subst e
    rw [List.flatMap_cons, List.getElem?_append_left (by rw [odN_len]; omega)]
    congr 1; omega
  | x :: l, j + 1, o, r, h, hr => by
    have h' : l[j]? = some o := by simpa using h
    rw [List.flatMap_cons, List.getElem?_append_right (by rw [odN_len]; omega), odN_len, show 6 * (j + 1) + r - 6 = 6 * j + r by omega, fm_get l j o r h' hr]
theorem bN_eq (B : Bo) : bN B = B.nx :: (B.os.length : Int) :: B.os.flatMap odN := by
  unfold bN bnK
  rw [List.take_length]
  rfl
theorem bN_0 (B : Bo) : nAt (bN B) 0 = B.nx := by rw [bN_eq]; rfl
theorem bN_1 (B : Bo) : nAt (bN B) 1 = B.os.length := by rw [bN_eq]; rfl
theorem bN_at {j : Nat} {o : Od} (h : B.os[j]? = some o) (r : Nat) (hr : r < 6) (x : Int) (hx : (odN o)[r]? = some x) : nAt (bN B) (2 + 6 * j + r) = x := by
  unfold nAt
  rw [bN_eq, show 2 + 6 * j + r = 6 * j + r + 1 + 1 by omega, List.getD_cons_succ, List.getD_cons_succ, List.getD_eq_getElem?_getD, fm_get B.os j o r h hr, hx]
  rfl
theorem sd_by (o : Od) : (sdN o == 0) = o.by := by
  obtain ⟨a, b, c, d, e, f⟩ := o
  cases f <;> rfl
theorem bN_od {j : Nat} {o : Od} (h : B.os[j]? = some o) : oAt (bN B) j = o := by
  unfold oAt
  rw [show 2 + 6 * j = 2 + 6 * j + 0 by omega, show 3 + 6 * j = 2 + 6 * j + 1 by omega, show 4 + 6 * j = 2 + 6 * j + 2 by omega, show 5 + 6 * j = 2 + 6 * j + 3 by omega, show 6 + 6 * j = 2 + 6 * j + 4 by omega, show 7 + 6 * j = 2 + 6 * j + 5 by omega]
  rw [bN_at h 0 (by omega) o.id rfl, bN_at h 1 (by omega) o.own rfl, bN_at h 2 (by omega) (sdN o) rfl, bN_at h 3 (by omega) o.pr rfl, bN_at h 4 (by omega) o.am rfl, bN_at h 5 (by omega) o.pl rfl]
  unfold odI
  rw [sd_by]
  rfl
theorem bN_sd {j : Nat} {o : Od} (h : B.os[j]? = some o) : nAt (bN B) (4 + 6 * j) = sdN o := by
  rw [show 4 + 6 * j = 2 + 6 * j + 2 by omega]
  exact bN_at h 2 (by omega) (sdN o) rfl
theorem bN_rd : ∀ k, k ≤ B.os.length → rdK (bN B) k = B.os.take k
  | 0, _ => rfl
  | k + 1, h => by
    have hk : k < B.os.length := by omega
    rw [rdK_succ, bN_rd k (by omega), List.take_succ_eq_append_getElem hk, bN_od (List.getElem?_eq_getElem hk)]
theorem bN_cnt (B : Bo) : cntN (bN B) = B.os.length := by unfold cntN; rw [bN_1]; omega
theorem last_take {l : List Od} {k : Nat} (h : k < l.length) : lastP (l.take (k + 1)) = l[k].pl := by rw [List.take_succ_eq_append_getElem h, lastP_snoc]
theorem bN_ok (h : BInv B) {j : Nat} (hj : j < B.os.length) : okP (bN B) j = true := by
  have ho := List.getElem?_eq_getElem hj
  have hm := List.mem_of_getElem? ho
  unfold okP
  rw [bN_od ho, bN_sd ho, bN_rd j (by omega), bN_0]
  unfold tkB
  have hp := h.pl _ hm
  have h1 : fnd (B.os.take j) B.os[j].id < 0 := by
    rw [fnd_no (fun o ho2 e => ?_)]; decide
    obtain ⟨i, hi, he⟩ := List.mem_take_iff_getElem.1 ho2
    have := List.pairwise_iff_getElem.1 h.ids i j (by omega) hj (by omega)
    exact this (by rw [he]; exact e)
  have h2 : lastP (B.os.take j) < B.os[j].pl := by
    cases j with
    | zero => show lastP ([] : List Od) < _; show (0 : Int) < _; omega
    | succ k =>
      rw [last_take (by omega)]
      exact List.pairwise_iff_getElem.1 h.pls k (k + 1) (by omega) hj (by omega)
  rw [h.may _ hm, decide_eq_true h1, decide_eq_true h2, decide_eq_true hp.2]
  simp
theorem bN_len (B : Bo) : (bN B).length = 2 + 6 * B.os.length := bnK_len (Nat.le_refl _)
theorem bN_good (h : BInv B) : GoodP (bN B) := by
  refine ⟨by rw [bN_len]; omega, by rw [bN_len, bN_1]; push_cast; omega, fun j hj => bN_ok h (by rw [bN_cnt] at hj; exact hj), by rw [bN_0]; have := h.nx1; omega⟩
theorem bN_nm (h : BInv B) : nm (boB B) = some (bN B) := by
  have hl := h.len
  exact nmF_encs 386 (bN B) (by rw [bN_len]; omega) h.fit
theorem bN_nmD (h : BInv B) : nmD (boB B) = some (bN B) := by
  have hl := h.len
  exact nmF_encs 401 (bN B) (by rw [bN_len]; omega) h.fit
theorem bN_back (B : Bo) : (⟨nAt (bN B) 0, rdK (bN B) (cntN (bN B))⟩ : Bo) = B := by
  rw [bN_0, bN_cnt, bN_rd _ (Nat.le_refl _), List.take_length]
theorem bN_goodD (h : BInv B) : GoodD (bN B) := by
  have hl := h.len
  obtain ⟨hm, hf⟩ := nm_fit (bN_nm h)
  exact (good_iff (fun i => (hf i).1) hm).1 (bN_good h)
end Go.Proofs.Ytlhfdgeknpmdfaa

namespace Go.Proofs.Ytlhfdgeknpmdfaa
open Go.RowKit
set_option linter.unusedSimpArgs false
set_option linter.unusedVariables false
variable {base p : Nat} {v : Value} {B : Bo}
theorem step_results {w' : World} {c0 c1 v : Value} {r : Nat} (X : Blk w' r #[c0, c1] 34) {t : Array Value} (h1 : t.getD 6 undef = .pointer (some ⟨r, 0, none⟩)) (h2 : t.getD 7 undef = v) :
    (results Try.f10 t).run Try.prog w' = .ok (.tuple #[.agg #[c0, c1], v]) w' := by
  have a0 := X.cell (o := 0) rfl
  have a1 := X.cell (o := 1) rfl
  simp only [Array.getD_eq_getD_getElem?] at h1 h2
  simp [results, Try.results10, go_sem, h1, h2, a0, a1]
/-- From lo to hi all blocks but r are as they were. -/
def Rng (lo hi r : Nat) (W wx : World) : Prop := W.heap.size ≤ wx.heap.size ∧ ∀ k, lo ≤ k → k < hi → k ≠ r → wx.heap[k]? = W.heap[k]?
theorem Rng.cell {lo hi r : Nat} {W wx : World} (h : Rng lo hi r W wx) {a : Addr} {u : Value} (c : W.cell? a = some u) (h1 : lo ≤ a.block) (h2 : a.block < hi) (h3 : a.block ≠ r) : wx.cell? a = some u :=
  (World.cell?_of_block (h.2 a.block h1 h2 h3)).trans c
theorem Rng.start (lo hi r : Nat) (W : World) : Rng lo hi r W W.drew := ⟨Nat.le_refl _, fun _ _ _ _ => rfl⟩
theorem Rng.below {lo hi r : Nat} {W w w' : World} (h : Rng lo hi r W w) (hh : hi ≤ W.heap.size) (hb : Below w.heap.size w w') : Rng lo hi r W w' :=
  ⟨Nat.le_trans h.1 hb.size, fun k h1 h2 h3 => (hb.block k (by have := h.1; omega)).trans (h.2 k h1 h2 h3)⟩
theorem Rng.ofb {lo hi r : Nat} {W w w' : World} (h : Rng lo hi r W w) (hh : hi ≤ W.heap.size) (hp : p < lo) (hv : ∀ k, v.ownBlock = some k → k < lo) (ho : Ofb p v w w') : Rng lo hi r W w' :=
  ⟨Nat.le_trans h.1 ho.size, fun k h1 h2 h3 => (ho.block k (by have := h.1; omega) (by omega) (fun e => by have := hv k e; omega)).trans (h.2 k h1 h2 h3)⟩
theorem Rng.row {lo hi r : Nat} {W w : World} (h : Rng lo hi r W w) (cs : Array Value) : Rng lo hi r W (w.setRow r cs) :=
  ⟨by simpa using h.1, fun k h1 h2 h3 => (setRow_other w r k cs h3).trans (h.2 k h1 h2 h3)⟩
/-- The document's row lies apart from the book. -/
def Apd (lv : Value) (p : Nat) (v : Value) (w : World) : Prop := ∀ k, lv.ownBlock = some k → k ≠ p ∧ v.ownBlock ≠ some k ∧ k < w.heap.size
theorem Ods.ofb {w w' : World} {lv : Value} {l : List Od} (h : Ods w lv l) (ho : Ofb p v w w') (ha : ∀ k, lv.ownBlock = some k → k ≠ p ∧ v.ownBlock ≠ some k) : Ods w' lv l := by
  obtain ⟨a, cap, rfl, hc⟩ := h
  refine ⟨a, cap, rfl, ?_⟩
  rcases hc with h1 | ⟨g, off, rfl, hx⟩
  · exact Or.inl h1
  · refine Or.inr ⟨g, off, rfl, fun k x i u h2 h3 => ?_⟩
    exact Ofb.cell ho (hx k x i u h2 h3) (ha g rfl).1 (ha g rfl).2
theorem Ods.row {w W : World} {r : Nat} {lv : Value} {l : List Od} {cs : Array Value} (h : Ods w lv l) (hW : w.setRow r cs = W) (ha : lv.ownBlock ≠ some r) : Ods W lv l := by
  obtain ⟨a, cap, rfl, hc⟩ := h
  refine ⟨a, cap, rfl, ?_⟩
  rcases hc with h1 | ⟨g, off, rfl, hx⟩
  · exact Or.inl h1
  · refine Or.inr ⟨g, off, rfl, fun k x i u h2 h3 => rowK hW (hx k x i u h2 h3) (fun e => ha ?_)⟩
    show some g = some r
    rw [← e]
theorem Bst.row {a b W : World} {v' : Value} {r : Nat} {cs : Array Value} (h : Bst a b base p v v' B) (hW : b.setRow r cs = W) (hr : a.heap.size ≤ r) (hp : p ≠ r) (hv : v'.ownBlock ≠ some r) (hb : base ≤ a.heap.size) : Bst a W base p v v' B := by
  have o : Off r b W := by rw [← hW]; exact (Off.refl _ _).setRow _
  exact ⟨⟨Blk.off h.bk.blk o hp, World.ownsRow.kept h.bk.row (offBy o) (Or.inr hv), h.bk.le, h.bk.ne, h.bk.inv⟩, ⟨o.os.trans h.of.os, o.tape.trans h.of.tape, o.output.trans h.of.output, Nat.le_trans h.of.size o.size, fun k hk h1 h2 => (o.block k (Nat.lt_of_lt_of_le hk h.of.size) (by omega)).trans (h.of.block k hk h1 h2)⟩, h.at_⟩
theorem own_ofb {w w' : World} {b z n : Nat} {t : TypeId} {u : Value} {xs : List Value} (h : w.ownsRow b t z u n xs) (ho : Ofb p v w w') (ha : ∀ k, u.ownBlock = some k → k ≠ p ∧ v.ownBlock ≠ some k) : w'.ownsRow b t z u n xs := by
  refine ⟨h.1, ?_⟩
  rcases h.2 with q | ⟨g, cap, cur, q, h1, h2, h3⟩
  · exact Or.inl q
  · refine Or.inr ⟨g, cap, cur, q, h1, ?_, h3⟩
    have hg : g < w.heap.size := (h.lt g (by rw [q]; rfl)).2
    rw [ho.block g hg (ha g (by rw [q]; rfl)).1 (ha g (by rw [q]; rfl)).2]; exact h2
/-- Behind a call of both: the document's book, the program's. -/
def StepP (lv : Value) (w : World) (base p : Nat) (v : Value) (B' : Bo) (e : Ending) (w' : World) : Prop :=
  ∃ lv' v', e = .returned (.tuple #[.agg #[lv', .int .i64 B'.nx], .bool true]) ∧ Ods w' lv' B'.os ∧ Bst w w' base p v v' B' ∧ Apd lv' p v' w' ∧ ∀ k, lv'.ownBlock = some k → lv.ownBlock = some k ∨ w.heap.size ≤ k
/-- What follows from the two calls. -/
theorem step_end {lv lv' v' : Value} {B' : Bo} {w W3 w4 W5 w6 W9 : World} {R : Nat} {cs : Array Value} (hw : Bk w base p v B) (hap : Apd lv p v w) (hB : base ≤ w.heap.size) (h3 : Below w.heap.size w W3) (hR1 : w.heap.size ≤ R) (hR2 : R < W3.heap.size)
    (b4 : Below W3.heap.size W3 w4) (hO : Ods w4 lv' B'.os) (hown : ∀ k, lv'.ownBlock = some k → lv.ownBlock = some k ∨ (W3.heap.size ≤ k ∧ k < w4.heap.size)) (b5 : Below w4.heap.size w4 W5) (S6 : Bst W5 w6 base p v v' B') (hW9 : w6.setRow R cs = W9) :
    Ods W9 lv' B'.os ∧ Bst w W9 base p v v' B' ∧ Apd lv' p v' W9 ∧ ∀ k, lv'.ownBlock = some k → lv.ownBlock = some k ∨ w.heap.size ≤ k := by
  have z3 := h3.size
  have z4 := b4.size
  have z5 := b5.size
  have z6 := S6.of.size
  have hpw := hw.blk.lt
  have hvw : ∀ k, v.ownBlock = some k → k < w.heap.size := fun k hk => (hw.row.lt k hk).2
  have e9 := row_size hW9
  have hap' : ∀ k, lv'.ownBlock = some k → k ≠ p ∧ v.ownBlock ≠ some k ∧ k ≠ R ∧ k < W5.heap.size := fun k hk => by
    rcases hown k hk with h | h
    · have := hap k h; exact ⟨this.1, this.2.1, by omega, by omega⟩
    · exact ⟨by omega, fun e => by have := hvw k e; omega, by omega, by omega⟩
  have hwW5 : Below w.heap.size w W5 := (h3.trans (b4.mono z3)).trans (b5.mono (by omega))
  have hv' : v'.ownBlock ≠ some R := fun e => by
    rcases S6.at_ R e with h | h
    · have := hvw R h; omega
    · omega
  refine ⟨((hO.below b5).ofb S6.of (fun k hk => ⟨(hap' k hk).1, (hap' k hk).2.1⟩)).row hW9 (fun e => (hap' R e).2.2.1 rfl), (Bst.first hwW5 S6).row hW9 hR1 (by omega) hv' hB, fun k hk => ⟨(hap' k hk).1, fun e => ?_, by have := (hap' k hk).2.2.2; omega⟩, fun k hk => ?_⟩
  · rcases S6.at_ k e with h | h
    · exact (hap' k hk).2.1 h
    · have := (hap' k hk).2.2.2; omega
  · rcases hown k hk with h | h
    · exact Or.inl h
    · exact Or.inr (by omega)
set_option maxHeartbeats 8000000 in
set_option maxRecDepth 100000 in
theorem step_calls (lv : Value) (a0 x0 x1 x2 x3 x4 : Int) (x5 : Bool) (w : World) (h : Bk w base p v B) (hB : base ≤ w.heap.size) (hl : Ods w lv B.os) (hap : Apd lv p v w) :
    Calls Try.prog 10 #[.pointer (some ⟨p, 0, none⟩), .agg #[lv, .int .i64 B.nx], .agg #[.int .i64 a0, .int .i64 x0, .int .i64 x1, .int .i64 x2, .int .i64 x3, .int .i64 x4, .bool x5]] w (StepP lv w base p v (B.act (a0, x0, x1, x2, x3, x4, x5))) := by
  have HK : Hid _ := h
  have HAP : Hid _ := hap
  have HI : Hid _ := h.inv
  have hpl := h.blk.lt
  have hvl : ∀ k, v.ownBlock = some k → k < w.heap.size := fun k hk => (h.row.lt k hk).2
  obtain ⟨W1, hW1, X1, B1, Z1⟩ : ∃ W1, w.alloc (.cells #[lv, .int .i64 B.nx] 34) = W1 ∧ Blk W1 w.heap.size #[lv, .int .i64 B.nx] 34 ∧ Below w.heap.size w W1 ∧ W1.heap.size = w.heap.size + 1 := ⟨_, rfl, blk_new _ _ _ _ rfl, by go_grown, by simp⟩
  obtain ⟨W2, hW2, X2, B2, Z2⟩ : ∃ W2, W1.alloc (.cells #[.int .i64 a0, .int .i64 x0, .int .i64 x1, .int .i64 x2, .int .i64 x3, .int .i64 x4, .bool x5] 39) = W2 ∧ Blk W2 (w.heap.size + 1) #[.int .i64 a0, .int .i64 x0, .int .i64 x1, .int .i64 x2, .int .i64 x3, .int .i64 x4, .bool x5] 39 ∧ Below W1.heap.size W1 W2 ∧ W2.heap.size = w.heap.size + 2 := ⟨_, rfl, blk_new _ _ _ _ (by omega), by go_grown, by simp; omega⟩
  obtain ⟨W3, hW3, X3, B3, Z3⟩ : ∃ W3, W2.alloc (.cells #[.slice none 0 0, .int .i64 0] 34) = W3 ∧ Blk W3 (w.heap.size + 2) #[.slice none 0 0, .int .i64 0] 34 ∧ Below W2.heap.size W2 W3 ∧ W3.heap.size = w.heap.size + 3 := ⟨_, rfl, blk_new _ _ _ _ (by omega), by go_grown, by simp; omega⟩
  have Y2 : Blk W3 (w.heap.size + 1) #[.int .i64 a0, .int .i64 x0, .int .i64 x1, .int .i64 x2, .int .i64 x3, .int .i64 x4, .bool x5] 39 := X2.below B3
  have Y1 : Blk W3 w.heap.size #[lv, .int .i64 B.nx] 34 := (X1.below B2).below B3
  have B13 : Below w.heap.size w W3 := (B1.trans (B2.mono (by omega))).trans (B3.mono (by omega))
  have HX3 : Hid _ := X3
  have HB3 : Hid _ := B13
  have HY2 : Hid _ := Y2
  have HZ : Hid (W3.heap.size = w.heap.size + 3) := Z3
  have O3 : Ods W3 lv B.os := Ods.below hl B13
  have y0 : W3.cell? ⟨w.heap.size, 0, none⟩ = some lv := Y1.cell rfl
  have y1 : W3.cell? ⟨w.heap.size, 1, none⟩ = some (.int .i64 B.nx) := Y1.cell rfl
  have c0 : W3.cell? ⟨w.heap.size + 1, 0, none⟩ = some (.int .i64 a0) := Y2.cell rfl
  have c1 : W3.cell? ⟨w.heap.size + 1, 1, none⟩ = some (.int .i64 x0) := Y2.cell rfl
  have c2 : W3.cell? ⟨w.heap.size + 1, 2, none⟩ = some (.int .i64 x1) := Y2.cell rfl
  have c3 : W3.cell? ⟨w.heap.size + 1, 3, none⟩ = some (.int .i64 x2) := Y2.cell rfl
  have c4 : W3.cell? ⟨w.heap.size + 1, 4, none⟩ = some (.int .i64 x3) := Y2.cell rfl
  have c5 : W3.cell? ⟨w.heap.size + 1, 5, none⟩ = some (.int .i64 x4) := Y2.cell rfl
  have c6 : W3.cell? ⟨w.heap.size + 1, 6, none⟩ = some (.bool x5) := Y2.cell rfl
  have hbd := arnd_bd a0
  obtain ⟨ar, har⟩ : ∃ ar, arnd a0 = ar := ⟨_, rfl⟩
  rw [har] at hbd
  have HAR : Hid _ := har
  have HAC := around_calls a0 W3
  rw [har] at HAC
  have HRA : Hid _ := refAmend_calls lv x0 x1 x2 x3 B h.inv W3 O3 _ rfl
  have HRN : Hid _ := refCancel_calls lv x0 x1 B h.inv W3 O3 _ rfl
  have HRC : Hid _ := refClear_calls lv B h.inv W3 O3
  have HRP : Hid _ := refPut_calls lv (x0, x1, x2, x3, x4, x5) B h.inv W3 O3 _ rfl
  obtain ⟨R, hR⟩ : ∃ R, w.heap.size + 2 = R := ⟨_, rfl⟩
  obtain ⟨act, HAT⟩ : ∃ act, Hid (B.act (a0, x0, x1, x2, x3, x4, x5) = act) := ⟨_, rfl⟩
  rw [HAT.out]
  have HAT2 : Hid _ := HAT
  clear X1 X2 X3 Y1 Y2 B1 B2 B3 B13 Z3 h hl hap O3 har
  by_cases t2 : ar = 2
  · subst t2
    obtain ⟨r, HRR⟩ : ∃ r, Hid (B.amend x0 x1 x2 x3 = r) := ⟨_, rfl⟩
    rw [HRR.out] at HRA
    have HACT : Hid (act = r.2) := by
      show _ = _
      rw [← HAT.out, ← HRR.out]
      unfold Bo.act
      rw [if_pos HAR.out]
      first | done | rfl
    have HC6 : Hid (∀ (W5 : World), Below w.heap.size w W5 → Calls Try.prog 15 #[.pointer (some ⟨p, 0, none⟩), .int .i64 x0, .int .i64 x1, .int .i64 x2, .int .i64 x3] W5 fun e w' => e = .returned (.int .i64 r.1) ∧ ∃ v', Bst W5 w' base p v v' r.2) := fun W5 hb => amend_calls x0 x1 x2 x3 W5 (Bk.below HK.out hb) (Nat.le_trans hB hb.size) _ HRR.out
    rw [HACT.out]
    clear HACT HAT HAT2
    go_enter Try.func10, Try.ntmps10
    go_wp2_with fail
    refine HAC.mono ?_
    rintro e wq ⟨rfl, hwq⟩
    obtain rfl : W3 = wq := hwq.symm
    go_wp2_with fail
    refine Calls.mono HRA.out ?_
    rintro e w4 ⟨lv', rfl, ho4, b4, own4⟩
    obtain ⟨la, lc, hlv, -⟩ := id ho4
    obtain ⟨n, hn⟩ : ∃ n, r.2.os.length = n := ⟨_, rfl⟩
    rw [hn] at hlv
    clear hn
    subst hlv
    have z4 := b4.size
    have hzz := HZ.out
    obtain ⟨nb, hnbe⟩ : ∃ nb, w4.heap.size = nb := ⟨_, rfl⟩
    obtain ⟨W5, hW5, X5, B5, Z5⟩ : ∃ W5, w4.alloc (.cells #[.slice la n lc, .int .i64 r.2.nx] 34) = W5 ∧ Blk W5 nb #[.slice la n lc, .int .i64 r.2.nx] 34 ∧ Below w4.heap.size w4 W5 ∧ W5.heap.size = nb + 1 := ⟨_, rfl, blk_new _ _ _ _ hnbe.symm, by go_grown, by simp; omega⟩
    have hb4 : Below w.heap.size w w4 := Below.trans HB3.out (b4.mono (by omega))
    have HB5 : Hid (Below w.heap.size w W5) := hb4.trans (B5.mono (by omega))
    have XA : Blk W5 (w.heap.size + 1) #[.int .i64 a0, .int .i64 x0, .int .i64 x1, .int .i64 x2, .int .i64 x3, .int .i64 x4, .bool x5] 39 := (Blk.below HY2.out b4).below B5
    have XR : Blk W5 R #[.slice none 0 0, .int .i64 0] 34 := by rw [← hR]; exact (Blk.below HX3.out b4).below B5
    have hnb : nb + 1 ≤ W5.heap.size := by omega
    have hnR : nb ≠ R := by omega
    have hnR1 : w.heap.size + 1 ≠ R := by omega
    have hnw : w.heap.size ≤ nb := by omega
    have hRw : w.heap.size ≤ R := by omega
    have hRn : R < nb + 1 := by omega
    have hR3 : R < W3.heap.size := by omega
    have HN0 : Hid (∀ wx, Rng w.heap.size (nb + 1) R W5 wx → wx.cell? ⟨nb, 0, none⟩ = some (.slice la n lc)) := fun wx hx => hx.cell (X5.cell rfl) hnw (Nat.lt_succ_self _) hnR
    have HN1 : Hid (∀ wx, Rng w.heap.size (nb + 1) R W5 wx → wx.cell? ⟨nb, 1, none⟩ = some (.int .i64 r.2.nx)) := fun wx hx => hx.cell (X5.cell rfl) hnw (Nat.lt_succ_self _) hnR
    have HD0 : Hid (∀ wx, Rng w.heap.size (nb + 1) R W5 wx → wx.cell? ⟨w.heap.size + 1, 1, none⟩ = some (.int .i64 x0)) := fun wx hx => hx.cell (XA.cell rfl) (by show w.heap.size ≤ w.heap.size + 1; omega) (by show w.heap.size + 1 < nb + 1; omega) hnR1
    have HD1 : Hid (∀ wx, Rng w.heap.size (nb + 1) R W5 wx → wx.cell? ⟨w.heap.size + 1, 2, none⟩ = some (.int .i64 x1)) := fun wx hx => hx.cell (XA.cell rfl) (by show w.heap.size ≤ w.heap.size + 1; omega) (by show w.heap.size + 1 < nb + 1; omega) hnR1
    have HD2 : Hid (∀ wx, Rng w.heap.size (nb + 1) R W5 wx → wx.cell? ⟨w.heap.size + 1, 3, none⟩ = some (.int .i64 x2)) := fun wx hx => hx.cell (XA.cell rfl) (by show w.heap.size ≤ w.heap.size + 1; omega) (by show w.heap.size + 1 < nb + 1; omega) hnR1
    have HD3 : Hid (∀ wx, Rng w.heap.size (nb + 1) R W5 wx → wx.cell? ⟨w.heap.size + 1, 4, none⟩ = some (.int .i64 x3)) := fun wx hx => hx.cell (XA.cell rfl) (by show w.heap.size ≤ w.heap.size + 1; omega) (by show w.heap.size + 1 < nb + 1; omega) hnR1
    have HD4 : Hid (∀ wx, Rng w.heap.size (nb + 1) R W5 wx → wx.cell? ⟨w.heap.size + 1, 5, none⟩ = some (.int .i64 x4)) := fun wx hx => hx.cell (XA.cell rfl) (by show w.heap.size ≤ w.heap.size + 1; omega) (by show w.heap.size + 1 < nb + 1; omega) hnR1
    have HD5 : Hid (∀ wx, Rng w.heap.size (nb + 1) R W5 wx → wx.cell? ⟨w.heap.size + 1, 6, none⟩ = some (.bool x5)) := fun wx hx => hx.cell (XA.cell rfl) (by show w.heap.size ≤ w.heap.size + 1; omega) (by show w.heap.size + 1 < nb + 1; omega) hnR1
    have HO4 : Hid _ := ho4
    have HW4 : Hid _ := own4
    have Hb4 : Hid _ := b4
    have HB54 : Hid _ := B5
    have HXR : Hid _ := XR
    clear ho4 own4 b4 B5 XA X5 y0 y1 c0 c1 c2 c3 c4 c5 c6 HX3 HY2 hb4 XR HAC HRA HRN HRC HRP
    go_wp2_with fail
    try rw [hR]
    clear hR hW5 Z1 Z2 hW1 hW2
    refine wp_region_held_drew (S := Rng w.heap.size (nb + 1) R W5) (by kernel_rfl) (Rng.start _ _ _ _) (fun hS => ?_)
    refine wpAnyH_take (i := 0) (v := (.agg #[.slice la n lc, .int .i64 r.2.nx])) rfl (by kernel_rfl) (by kernel_rfl) (by kernel_rfl) (fun _ _ _ h => h) (Or.inl ⟨by rfl, fun wx hS => by have s0 := HN0.out wx hS; have s1 := HN1.out wx hS; go_simp⟩) hS ?_
    refine wpAnyH_take (i := 1) (v := (.pointer (some ⟨p, 0, none⟩))) rfl (by kernel_rfl) (by kernel_rfl) (by kernel_rfl) (fun _ _ _ h => h) (Or.inl ⟨by rfl, fun wx hS => by go_simp⟩) hS ?_
    refine wpAnyH_take (i := 2) (v := (.pointer (some ⟨w.heap.size + 1, 1, none⟩))) rfl (by kernel_rfl) (by kernel_rfl) (by kernel_rfl) (fun _ _ _ h => h) (Or.inl ⟨by rfl, fun wx hS => by go_simp⟩) hS ?_
    refine wpAnyH_take (i := 3) (v := (.pointer (some ⟨w.heap.size + 1, 1, none⟩))) rfl (by kernel_rfl) (by kernel_rfl) (by kernel_rfl) (fun _ _ _ h => h) (Or.inl ⟨by rfl, fun wx hS => by go_simp⟩) hS ?_
    refine wpAnyH_take (i := 4) (v := (.int .i64 x0)) rfl (by kernel_rfl) (by kernel_rfl) (by kernel_rfl) (fun _ _ _ h => h) (Or.inl ⟨by rfl, fun wx hS => by have s0 := HD0.out wx hS; go_simp⟩) hS ?_
    refine wpAnyH_take (i := 5) (v := (.pointer (some ⟨w.heap.size + 1, 1, none⟩))) rfl (by kernel_rfl) (by kernel_rfl) (by kernel_rfl) (fun _ _ _ h => h) (Or.inl ⟨by rfl, fun wx hS => by go_simp⟩) hS ?_
    refine wpAnyH_take (i := 6) (v := (.pointer (some ⟨w.heap.size + 1, 2, none⟩))) rfl (by kernel_rfl) (by kernel_rfl) (by kernel_rfl) (fun _ _ _ h => h) (Or.inl ⟨by rfl, fun wx hS => by go_simp⟩) hS ?_
    refine wpAnyH_take (i := 7) (v := (.int .i64 x1)) rfl (by kernel_rfl) (by kernel_rfl) (by kernel_rfl) (fun _ _ _ h => h) (Or.inl ⟨by rfl, fun wx hS => by have s0 := HD1.out wx hS; go_simp⟩) hS ?_
    refine wpAnyH_take (i := 8) (v := (.pointer (some ⟨w.heap.size + 1, 1, none⟩))) rfl (by kernel_rfl) (by kernel_rfl) (by kernel_rfl) (fun _ _ _ h => h) (Or.inl ⟨by rfl, fun wx hS => by go_simp⟩) hS ?_
    refine wpAnyH_take (i := 9) (v := (.pointer (some ⟨w.heap.size + 1, 3, none⟩))) rfl (by kernel_rfl) (by kernel_rfl) (by kernel_rfl) (fun _ _ _ h => h) (Or.inl ⟨by rfl, fun wx hS => by go_simp⟩) hS ?_
    refine wpAnyH_take (i := 10) (v := (.int .i64 x2)) rfl (by kernel_rfl) (by kernel_rfl) (by kernel_rfl) (fun _ _ _ h => h) (Or.inl ⟨by rfl, fun wx hS => by have s0 := HD2.out wx hS; go_simp⟩) hS ?_
    refine wpAnyH_take (i := 11) (v := (.pointer (some ⟨w.heap.size + 1, 1, none⟩))) rfl (by kernel_rfl) (by kernel_rfl) (by kernel_rfl) (fun _ _ _ h => h) (Or.inl ⟨by rfl, fun wx hS => by go_simp⟩) hS ?_
    refine wpAnyH_take (i := 12) (v := (.pointer (some ⟨w.heap.size + 1, 4, none⟩))) rfl (by kernel_rfl) (by kernel_rfl) (by kernel_rfl) (fun _ _ _ h => h) (Or.inl ⟨by rfl, fun wx hS => by go_simp⟩) hS ?_
    refine wpAnyH_take (i := 13) (v := (.int .i64 x3)) rfl (by kernel_rfl) (by kernel_rfl) (by kernel_rfl) (fun _ _ _ h => h) (Or.inl ⟨by rfl, fun wx hS => by have s0 := HD3.out wx hS; go_simp⟩) hS ?_
    refine wpAnyH_take (i := 15) (v := (.int .i64 r.1)) rfl (by kernel_rfl) (by kernel_rfl) (by kernel_rfl) (fun _ _ _ h => h) (Or.inl ⟨by rfl, fun wx hS => by go_simp⟩) hS ?_
    refine wpAnyH_ready (rs := [14]) (by kernel_rfl) (by simp) ?_
    refine AllReadyH.cons rfl (fun K hK => ?_) AllReadyH.nil
    go_simp
    refine Calls.mono (HC6.out _ (Below.drew HB5.out)) ?_
    rintro e6 w6 ⟨rfl, v6, S6⟩
    refine hK.out _ _ (hS.ofb hnb hpl hvl S6.of) (fun hS => ?_)
    clear hK
    refine wpAnyH_take (i := 16) (v := (.bool true)) rfl (by kernel_rfl) (by kernel_rfl) (by kernel_rfl) (fun _ _ _ h => h) (Or.inl ⟨by rfl, fun wx hS => by go_simp⟩) hS ?_
    have XRw : Blk w6 R #[.slice none 0 0, .int .i64 0] 34 := Blk.ofb (Blk.drew HXR.out) S6.of (by omega) (fun e => by have := hvl R e; omega)
    obtain ⟨W9, hW9, X9, _⟩ := setRow_named XRw #[.slice la n lc, .int .i64 r.2.nx]
    refine wpAnyH_ready (rs := [17]) (by kernel_rfl) (by simp) ?_
    refine readyH_rowC 17 rfl (ty := 34) (x := .tmp 6) (y := .tmp 43) rfl rfl rfl R #[.slice la n lc, .int .i64 r.2.nx] (by kernel_rfl) (by kernel_rfl) 34 #[.slice none 0 0, .int .i64 0] XRw (infoBk2 _ _) rfl (oneBk2 _ _ _ _) (hS.row _) (fun hS => ?_)
    refine wpAnyH_ready (rs := [18]) (by kernel_rfl) (by simp) ?_
    refine AllReadyH.cons rfl (fun K hK => ?_) AllReadyH.nil
    go_simp
    try rw [hW9] at hS
    refine hK.out _ _ hS (fun hS => ?_)
    clear hK
    refine wpAnyH_done (by kernel_rfl) ?_ _
    try rw [hW9]
    go_wp2
    refine bodyPost_ret (v := .tuple #[.agg #[.slice la n lc, .int .i64 r.2.nx], .bool true]) (step_results X9 rfl rfl) rfl ?_
    have hend := step_end HK.out HAP.out hB HB3.out hRw hR3 Hb4.out HO4.out HW4.out (Below.drew HB54.out) S6 hW9
    exact ⟨_, v6, rfl, hend⟩
  · by_cases t3 : ar = 3
    · subst t3
      obtain ⟨r, HRR⟩ : ∃ r, Hid (B.cancel x0 x1 = r) := ⟨_, rfl⟩
      rw [HRR.out] at HRN
      have HACT : Hid (act = r.2) := by
        show _ = _
        rw [← HAT.out, ← HRR.out]
        unfold Bo.act
        rw [if_neg (by rw [HAR.out]; decide), if_pos HAR.out]
        first | done | rfl
      have HC6 : Hid (∀ (W5 : World), Below w.heap.size w W5 → Calls Try.prog 16 #[.pointer (some ⟨p, 0, none⟩), .int .i64 x0, .int .i64 x1] W5 fun e w' => e = .returned (.int .i64 r.1) ∧ ∃ v', Bst W5 w' base p v v' r.2) := fun W5 hb => cancel_calls x0 x1 W5 (Bk.below HK.out hb) _ HRR.out
      rw [HACT.out]
      clear HACT HAT HAT2
      go_enter Try.func10, Try.ntmps10
      go_wp2_with fail
      refine HAC.mono ?_
      rintro e wq ⟨rfl, hwq⟩
      obtain rfl : W3 = wq := hwq.symm
      go_wp2_with fail
      refine Calls.mono HRN.out ?_
      rintro e w4 ⟨lv', rfl, ho4, b4, own4⟩
      obtain ⟨la, lc, hlv, -⟩ := id ho4
      obtain ⟨n, hn⟩ : ∃ n, r.2.os.length = n := ⟨_, rfl⟩
      rw [hn] at hlv
      clear hn
      subst hlv
      have z4 := b4.size
      have hzz := HZ.out
      obtain ⟨nb, hnbe⟩ : ∃ nb, w4.heap.size = nb := ⟨_, rfl⟩
      obtain ⟨W5, hW5, X5, B5, Z5⟩ : ∃ W5, w4.alloc (.cells #[.slice la n lc, .int .i64 r.2.nx] 34) = W5 ∧ Blk W5 nb #[.slice la n lc, .int .i64 r.2.nx] 34 ∧ Below w4.heap.size w4 W5 ∧ W5.heap.size = nb + 1 := ⟨_, rfl, blk_new _ _ _ _ hnbe.symm, by go_grown, by simp; omega⟩
      have hb4 : Below w.heap.size w w4 := Below.trans HB3.out (b4.mono (by omega))
      have HB5 : Hid (Below w.heap.size w W5) := hb4.trans (B5.mono (by omega))
      have XA : Blk W5 (w.heap.size + 1) #[.int .i64 a0, .int .i64 x0, .int .i64 x1, .int .i64 x2, .int .i64 x3, .int .i64 x4, .bool x5] 39 := (Blk.below HY2.out b4).below B5
      have XR : Blk W5 R #[.slice none 0 0, .int .i64 0] 34 := by rw [← hR]; exact (Blk.below HX3.out b4).below B5
      have hnb : nb + 1 ≤ W5.heap.size := by omega
      have hnR : nb ≠ R := by omega
      have hnR1 : w.heap.size + 1 ≠ R := by omega
      have hnw : w.heap.size ≤ nb := by omega
      have hRw : w.heap.size ≤ R := by omega
      have hRn : R < nb + 1 := by omega
      have hR3 : R < W3.heap.size := by omega
      have HN0 : Hid (∀ wx, Rng w.heap.size (nb + 1) R W5 wx → wx.cell? ⟨nb, 0, none⟩ = some (.slice la n lc)) := fun wx hx => hx.cell (X5.cell rfl) hnw (Nat.lt_succ_self _) hnR
      have HN1 : Hid (∀ wx, Rng w.heap.size (nb + 1) R W5 wx → wx.cell? ⟨nb, 1, none⟩ = some (.int .i64 r.2.nx)) := fun wx hx => hx.cell (X5.cell rfl) hnw (Nat.lt_succ_self _) hnR
      have HD0 : Hid (∀ wx, Rng w.heap.size (nb + 1) R W5 wx → wx.cell? ⟨w.heap.size + 1, 1, none⟩ = some (.int .i64 x0)) := fun wx hx => hx.cell (XA.cell rfl) (by show w.heap.size ≤ w.heap.size + 1; omega) (by show w.heap.size + 1 < nb + 1; omega) hnR1
      have HD1 : Hid (∀ wx, Rng w.heap.size (nb + 1) R W5 wx → wx.cell? ⟨w.heap.size + 1, 2, none⟩ = some (.int .i64 x1)) := fun wx hx => hx.cell (XA.cell rfl) (by show w.heap.size ≤ w.heap.size + 1; omega) (by show w.heap.size + 1 < nb + 1; omega) hnR1
      have HD2 : Hid (∀ wx, Rng w.heap.size (nb + 1) R W5 wx → wx.cell? ⟨w.heap.size + 1, 3, none⟩ = some (.int .i64 x2)) := fun wx hx => hx.cell (XA.cell rfl) (by show w.heap.size ≤ w.heap.size + 1; omega) (by show w.heap.size + 1 < nb + 1; omega) hnR1
      have HD3 : Hid (∀ wx, Rng w.heap.size (nb + 1) R W5 wx → wx.cell? ⟨w.heap.size + 1, 4, none⟩ = some (.int .i64 x3)) := fun wx hx => hx.cell (XA.cell rfl) (by show w.heap.size ≤ w.heap.size + 1; omega) (by show w.heap.size + 1 < nb + 1; omega) hnR1
      have HD4 : Hid (∀ wx, Rng w.heap.size (nb + 1) R W5 wx → wx.cell? ⟨w.heap.size + 1, 5, none⟩ = some (.int .i64 x4)) := fun wx hx => hx.cell (XA.cell rfl) (by show w.heap.size ≤ w.heap.size + 1; omega) (by show w.heap.size + 1 < nb + 1; omega) hnR1
      have HD5 : Hid (∀ wx, Rng w.heap.size (nb + 1) R W5 wx → wx.cell? ⟨w.heap.size + 1, 6, none⟩ = some (.bool x5)) := fun wx hx => hx.cell (XA.cell rfl) (by show w.heap.size ≤ w.heap.size + 1; omega) (by show w.heap.size + 1 < nb + 1; omega) hnR1
      have HO4 : Hid _ := ho4
      have HW4 : Hid _ := own4
      have Hb4 : Hid _ := b4
      have HB54 : Hid _ := B5
      have HXR : Hid _ := XR
      clear ho4 own4 b4 B5 XA X5 y0 y1 c0 c1 c2 c3 c4 c5 c6 HX3 HY2 hb4 XR HAC HRA HRN HRC HRP
      go_wp2_with fail
      try rw [hR]
      clear hR hW5 Z1 Z2 hW1 hW2
      refine wp_region_held_drew (S := Rng w.heap.size (nb + 1) R W5) (by kernel_rfl) (Rng.start _ _ _ _) (fun hS => ?_)
      refine wpAnyH_take (i := 0) (v := (.agg #[.slice la n lc, .int .i64 r.2.nx])) rfl (by kernel_rfl) (by kernel_rfl) (by kernel_rfl) (fun _ _ _ h => h) (Or.inl ⟨by rfl, fun wx hS => by have s0 := HN0.out wx hS; have s1 := HN1.out wx hS; go_simp⟩) hS ?_
      refine wpAnyH_take (i := 1) (v := (.pointer (some ⟨p, 0, none⟩))) rfl (by kernel_rfl) (by kernel_rfl) (by kernel_rfl) (fun _ _ _ h => h) (Or.inl ⟨by rfl, fun wx hS => by go_simp⟩) hS ?_
      refine wpAnyH_take (i := 2) (v := (.pointer (some ⟨w.heap.size + 1, 1, none⟩))) rfl (by kernel_rfl) (by kernel_rfl) (by kernel_rfl) (fun _ _ _ h => h) (Or.inl ⟨by rfl, fun wx hS => by go_simp⟩) hS ?_
      refine wpAnyH_take (i := 3) (v := (.pointer (some ⟨w.heap.size + 1, 1, none⟩))) rfl (by kernel_rfl) (by kernel_rfl) (by kernel_rfl) (fun _ _ _ h => h) (Or.inl ⟨by rfl, fun wx hS => by go_simp⟩) hS ?_
      refine wpAnyH_take (i := 4) (v := (.int .i64 x0)) rfl (by kernel_rfl) (by kernel_rfl) (by kernel_rfl) (fun _ _ _ h => h) (Or.inl ⟨by rfl, fun wx hS => by have s0 := HD0.out wx hS; go_simp⟩) hS ?_
      refine wpAnyH_take (i := 5) (v := (.pointer (some ⟨w.heap.size + 1, 1, none⟩))) rfl (by kernel_rfl) (by kernel_rfl) (by kernel_rfl) (fun _ _ _ h => h) (Or.inl ⟨by rfl, fun wx hS => by go_simp⟩) hS ?_
      refine wpAnyH_take (i := 6) (v := (.pointer (some ⟨w.heap.size + 1, 2, none⟩))) rfl (by kernel_rfl) (by kernel_rfl) (by kernel_rfl) (fun _ _ _ h => h) (Or.inl ⟨by rfl, fun wx hS => by go_simp⟩) hS ?_
      refine wpAnyH_take (i := 7) (v := (.int .i64 x1)) rfl (by kernel_rfl) (by kernel_rfl) (by kernel_rfl) (fun _ _ _ h => h) (Or.inl ⟨by rfl, fun wx hS => by have s0 := HD1.out wx hS; go_simp⟩) hS ?_
      refine wpAnyH_take (i := 9) (v := (.int .i64 r.1)) rfl (by kernel_rfl) (by kernel_rfl) (by kernel_rfl) (fun _ _ _ h => h) (Or.inl ⟨by rfl, fun wx hS => by go_simp⟩) hS ?_
      refine wpAnyH_ready (rs := [8]) (by kernel_rfl) (by simp) ?_
      refine AllReadyH.cons rfl (fun K hK => ?_) AllReadyH.nil
      go_simp
      refine Calls.mono (HC6.out _ (Below.drew HB5.out)) ?_
      rintro e6 w6 ⟨rfl, v6, S6⟩
      refine hK.out _ _ (hS.ofb hnb hpl hvl S6.of) (fun hS => ?_)
      clear hK
      refine wpAnyH_take (i := 10) (v := (.bool true)) rfl (by kernel_rfl) (by kernel_rfl) (by kernel_rfl) (fun _ _ _ h => h) (Or.inl ⟨by rfl, fun wx hS => by go_simp⟩) hS ?_
      have XRw : Blk w6 R #[.slice none 0 0, .int .i64 0] 34 := Blk.ofb (Blk.drew HXR.out) S6.of (by omega) (fun e => by have := hvl R e; omega)
      obtain ⟨W9, hW9, X9, _⟩ := setRow_named XRw #[.slice la n lc, .int .i64 r.2.nx]
      refine wpAnyH_ready (rs := [11]) (by kernel_rfl) (by simp) ?_
      refine readyH_rowC 11 rfl (ty := 34) (x := .tmp 6) (y := .tmp 73) rfl rfl rfl R #[.slice la n lc, .int .i64 r.2.nx] (by kernel_rfl) (by kernel_rfl) 34 #[.slice none 0 0, .int .i64 0] XRw (infoBk2 _ _) rfl (oneBk2 _ _ _ _) (hS.row _) (fun hS => ?_)
      refine wpAnyH_ready (rs := [12]) (by kernel_rfl) (by simp) ?_
      refine AllReadyH.cons rfl (fun K hK => ?_) AllReadyH.nil
      go_simp
      try rw [hW9] at hS
      refine hK.out _ _ hS (fun hS => ?_)
      clear hK
      refine wpAnyH_done (by kernel_rfl) ?_ _
      try rw [hW9]
      go_wp2
      refine bodyPost_ret (v := .tuple #[.agg #[.slice la n lc, .int .i64 r.2.nx], .bool true]) (step_results X9 rfl rfl) rfl ?_
      have hend := step_end HK.out HAP.out hB HB3.out hRw hR3 Hb4.out HO4.out HW4.out (Below.drew HB54.out) S6 hW9
      exact ⟨_, v6, rfl, hend⟩
    · by_cases t4 : ar = 4
      · subst t4
        obtain ⟨r, HRR⟩ : ∃ r : Int × Bo, Hid ((0, B.clr) = r) := ⟨_, rfl⟩
        have HACT : Hid (act = r.2) := by
          show _ = _
          rw [← HAT.out, ← HRR.out]
          unfold Bo.act
          rw [if_neg (by rw [HAR.out]; decide), if_neg (by rw [HAR.out]; decide), if_pos HAR.out]
          first | done | rfl
        have HNX : Hid (r.2.nx = B.nx) := by show _ = _; rw [← HRR.out]; rfl
        have HOS : Hid (B.clr.os = r.2.os) := by show _ = _; rw [← HRR.out]
        have hfl : B.fl.length ≤ 100000 := by
          have hlen := (BInv.len HI.out)
          have := fT_len B.os (crs B.os).1 (crs B.os).2 2 hlen
          rw [fT_end _ _ _ hlen] at this
          unfold Bo.fl; omega
        have HC6 : Hid (∀ (W5 : World), Below w.heap.size w W5 → Calls Try.prog 17 #[.pointer (some ⟨p, 0, none⟩)] W5 fun e w' => ∃ vF v', e = .returned (.tuple #[.int .i64 (crs B.os).1, .int .i64 (crs B.os).2, vF]) ∧ w'.ownsRow W5.heap.size 84 3 vF B.fl.length (fiL B.fl) ∧ Bst W5 w' base p v v' r.2) := fun W5 hb => by
          rw [← HRR.out]
          exact clear_calls W5 (Bk.below HK.out hb) (Nat.le_trans hB hb.size)
        rw [HACT.out]
        have HRC2 : Hid (Calls Try.prog 33 #[.agg #[lv, .int .i64 B.nx]] W3 fun e w' => ∃ lv' vf, e = .returned (.tuple #[.agg #[lv', .int .i64 r.2.nx], .int .i64 (crs B.os).1, .int .i64 (crs B.os).2, vf]) ∧ w'.ownsRow W3.heap.size 28 6 lv' r.2.os.length (odL r.2.os) ∧ w'.ownsRow W3.heap.size 84 3 vf B.fl.length (fiL B.fl) ∧ Below W3.heap.size W3 w') := by
          rw [← HRR.out]
          exact HRC.out
        clear HRC
        generalize (crs B.os).1 = cp at *
        generalize (crs B.os).2 = cn at *
        clear HACT HAT HAT2
        go_enter Try.func10, Try.ntmps10
        go_wp2_with fail
        refine HAC.mono ?_
        rintro e wq ⟨rfl, hwq⟩
        obtain rfl : W3 = wq := hwq.symm
        go_wp2_with fail
        refine Calls.mono HRC2.out ?_
        rintro e w4 ⟨lv', vf, rfl, olv4, ofl4, b4⟩
        have ho4 : Ods w4 lv' r.2.os := ods_own olv4
        have own4 : ∀ k, lv'.ownBlock = some k → lv.ownBlock = some k ∨ (W3.heap.size ≤ k ∧ k < w4.heap.size) := fun k hk => Or.inr (olv4.lt k hk)
        have HOF4 : Hid _ := ofl4
        obtain ⟨fa, fc, rfl⟩ := own_form ofl4
        clear olv4 ofl4
        obtain ⟨la, lc, hlv, -⟩ := id ho4
        obtain ⟨n, hn⟩ : ∃ n, r.2.os.length = n := ⟨_, rfl⟩
        rw [hn] at hlv
        clear hn
        subst hlv
        have z4 := b4.size
        have hzz := HZ.out
        obtain ⟨nb, hnbe⟩ : ∃ nb, w4.heap.size = nb := ⟨_, rfl⟩
        obtain ⟨W5, hW5, X5, B5, Z5⟩ : ∃ W5, w4.alloc (.cells #[.slice la n lc, .int .i64 r.2.nx] 34) = W5 ∧ Blk W5 nb #[.slice la n lc, .int .i64 r.2.nx] 34 ∧ Below w4.heap.size w4 W5 ∧ W5.heap.size = nb + 1 := ⟨_, rfl, blk_new _ _ _ _ hnbe.symm, by go_grown, by simp; omega⟩
        have hb4 : Below w.heap.size w w4 := Below.trans HB3.out (b4.mono (by omega))
        have HB5 : Hid (Below w.heap.size w W5) := hb4.trans (B5.mono (by omega))
        have XA : Blk W5 (w.heap.size + 1) #[.int .i64 a0, .int .i64 x0, .int .i64 x1, .int .i64 x2, .int .i64 x3, .int .i64 x4, .bool x5] 39 := (Blk.below HY2.out b4).below B5
        have XR : Blk W5 R #[.slice none 0 0, .int .i64 0] 34 := by rw [← hR]; exact (Blk.below HX3.out b4).below B5
        have hnb : nb + 1 ≤ W5.heap.size := by omega
        have hnR : nb ≠ R := by omega
        have hnR1 : w.heap.size + 1 ≠ R := by omega
        have hnw : w.heap.size ≤ nb := by omega
        have hRw : w.heap.size ≤ R := by omega
        have hRn : R < nb + 1 := by omega
        have hR3 : R < W3.heap.size := by omega
        have HN0 : Hid (∀ wx, Rng w.heap.size (nb + 1) R W5 wx → wx.cell? ⟨nb, 0, none⟩ = some (.slice la n lc)) := fun wx hx => hx.cell (X5.cell rfl) hnw (Nat.lt_succ_self _) hnR
        have HN1 : Hid (∀ wx, Rng w.heap.size (nb + 1) R W5 wx → wx.cell? ⟨nb, 1, none⟩ = some (.int .i64 r.2.nx)) := fun wx hx => hx.cell (X5.cell rfl) hnw (Nat.lt_succ_self _) hnR
        have HD0 : Hid (∀ wx, Rng w.heap.size (nb + 1) R W5 wx → wx.cell? ⟨w.heap.size + 1, 1, none⟩ = some (.int .i64 x0)) := fun wx hx => hx.cell (XA.cell rfl) (by show w.heap.size ≤ w.heap.size + 1; omega) (by show w.heap.size + 1 < nb + 1; omega) hnR1
        have HD1 : Hid (∀ wx, Rng w.heap.size (nb + 1) R W5 wx → wx.cell? ⟨w.heap.size + 1, 2, none⟩ = some (.int .i64 x1)) := fun wx hx => hx.cell (XA.cell rfl) (by show w.heap.size ≤ w.heap.size + 1; omega) (by show w.heap.size + 1 < nb + 1; omega) hnR1
        have HD2 : Hid (∀ wx, Rng w.heap.size (nb + 1) R W5 wx → wx.cell? ⟨w.heap.size + 1, 3, none⟩ = some (.int .i64 x2)) := fun wx hx => hx.cell (XA.cell rfl) (by show w.heap.size ≤ w.heap.size + 1; omega) (by show w.heap.size + 1 < nb + 1; omega) hnR1
        have HD3 : Hid (∀ wx, Rng w.heap.size (nb + 1) R W5 wx → wx.cell? ⟨w.heap.size + 1, 4, none⟩ = some (.int .i64 x3)) := fun wx hx => hx.cell (XA.cell rfl) (by show w.heap.size ≤ w.heap.size + 1; omega) (by show w.heap.size + 1 < nb + 1; omega) hnR1
        have HD4 : Hid (∀ wx, Rng w.heap.size (nb + 1) R W5 wx → wx.cell? ⟨w.heap.size + 1, 5, none⟩ = some (.int .i64 x4)) := fun wx hx => hx.cell (XA.cell rfl) (by show w.heap.size ≤ w.heap.size + 1; omega) (by show w.heap.size + 1 < nb + 1; omega) hnR1
        have HD5 : Hid (∀ wx, Rng w.heap.size (nb + 1) R W5 wx → wx.cell? ⟨w.heap.size + 1, 6, none⟩ = some (.bool x5)) := fun wx hx => hx.cell (XA.cell rfl) (by show w.heap.size ≤ w.heap.size + 1; omega) (by show w.heap.size + 1 < nb + 1; omega) hnR1
        have HO4 : Hid _ := ho4
        have HW4 : Hid _ := own4
        have Hb4 : Hid _ := b4
        have HB54 : Hid _ := B5
        have HXR : Hid _ := XR
        clear ho4 own4 b4 B5 XA X5 y0 y1 c0 c1 c2 c3 c4 c5 c6 HX3 HY2 hb4 XR HAC HRA HRN HRC2 HRP
        go_wp2_with fail
        try rw [hR]
        refine Calls.mono (HC6.out _ HB5.out) ?_
        rintro e w6 ⟨vF, v6, rfl, ofl6, S6⟩
        obtain ⟨ga, gc, rfl⟩ := own_form ofl6
        have HOF6 : Hid _ := ofl6
        have RG6 : Rng w.heap.size (nb + 1) R W5 w6 := (show Rng w.heap.size (nb + 1) R W5 W5 from ⟨Nat.le_refl _, fun _ _ _ _ => rfl⟩).ofb hnb hpl hvl S6.of
        have HG6 : Hid _ := RG6
        have XRw : Blk w6 R #[.slice none 0 0, .int .i64 0] 34 := Blk.ofb HXR.out S6.of (by omega) (fun e => by have := hvl R e; omega)
        have HOFB : Hid (w6.ownsRow W3.heap.size 84 3 (.slice fa B.fl.length fc) B.fl.length (fiL B.fl)) := by
          refine own_ofb (ownB HOF4.out HB54.out) S6.of (fun k hk => ?_)
          have := World.ownsRow.lt HOF4.out k hk
          have e3 : w.heap.size + 3 = W3.heap.size := by omega
          exact ⟨by omega, fun e => by have := hvl k e; omega⟩
        have HSF : Hid (∀ wx, Below w6.heap.size w6 wx → Calls Try.prog 34 #[.slice fa B.fl.length fc, .slice ga B.fl.length gc] wx fun e w' => e = .returned (.bool true) ∧ Below wx.heap.size wx w') := fun wx hb => sameFills_same _ _ B.fl _ _ wx (ownB HOFB.out hb) (ownB HOF6.out hb) hfl
        have HXRw : Hid _ := XRw
        clear ofl6 RG6 XRw HC6
        go_wp2_with fail
        try rw [hR]
        clear hR hW5 Z1 Z2 hW1 hW2
        refine wp_region_held_drew (S := (fun wx => Rng w.heap.size (nb + 1) R W5 wx)) (by kernel_rfl) (Rng.below HG6.out hnb (Below.refl _ _).drew) (fun hS => ?_)
        refine wpAnyH_take (i := 0) (v := (.agg #[.slice la n lc, .int .i64 r.2.nx])) rfl (by kernel_rfl) (by kernel_rfl) (by kernel_rfl) (fun _ _ _ h => h) (Or.inl ⟨by rfl, fun wx hS => by have s0 := HN0.out wx hS; have s1 := HN1.out wx hS; go_simp⟩) hS ?_
        refine wpAnyH_take (i := 1) (v := (.int .i64 cp)) rfl (by kernel_rfl) (by kernel_rfl) (by kernel_rfl) (fun _ _ _ h => h) (Or.inl ⟨by rfl, fun wx hS => by go_simp⟩) hS ?_
        refine wpAnyH_take (i := 2) (v := (.int .i64 cp)) rfl (by kernel_rfl) (by kernel_rfl) (by kernel_rfl) (fun _ _ _ h => h) (Or.inl ⟨by rfl, fun wx hS => by go_simp⟩) hS ?_
        refine wpAnyH_take (i := 3) (v := (.bool true)) rfl (by kernel_rfl) (by kernel_rfl) (by kernel_rfl) (fun _ _ _ h => h) (Or.inl ⟨by rfl, fun wx hS => by go_simp⟩) hS ?_
        refine wpAnyH_take (i := 4) (v := (.bool true)) rfl (by kernel_rfl) (by kernel_rfl) (by kernel_rfl) (fun _ _ _ h => h) (Or.inl ⟨by rfl, fun wx hS => by go_simp⟩) hS ?_
        refine wpAnyH_take (i := 5) (v := (.int .i64 cn)) rfl (by kernel_rfl) (by kernel_rfl) (by kernel_rfl) (fun _ _ _ h => h) (Or.inl ⟨by kernel_rfl, fun wx hS => by go_simp⟩) hS ?_
        refine wpAnyH_take (i := 6) (v := (.int .i64 cn)) rfl (by kernel_rfl) (by kernel_rfl) (by kernel_rfl) (fun _ _ _ h => h) (Or.inl ⟨by kernel_rfl, fun wx hS => by go_simp⟩) hS ?_
        refine wpAnyH_take (i := 7) (v := (.bool true)) rfl (by kernel_rfl) (by kernel_rfl) (by kernel_rfl) (fun _ _ _ h => h) (Or.inl ⟨by kernel_rfl, fun wx hS => by go_simp⟩) hS ?_
        refine wpAnyH_take (i := 8) (v := (.bool true)) rfl (by kernel_rfl) (by kernel_rfl) (by kernel_rfl) (fun _ _ _ h => h) (Or.inl ⟨by rfl, fun wx hS => by go_simp⟩) hS ?_
        refine wpAnyH_take (i := 9) (v := (.bool true)) rfl (by kernel_rfl) (by kernel_rfl) (by kernel_rfl) (fun _ _ _ h => h) (Or.inl ⟨by rfl, fun wx hS => by go_simp⟩) hS ?_
        refine wpAnyH_take (i := 10) (v := (.slice fa B.fl.length fc)) rfl (by kernel_rfl) (by kernel_rfl) (by kernel_rfl) (fun _ _ _ h => h) (Or.inl ⟨by kernel_rfl, fun wx hS => by go_simp⟩) hS ?_
        refine wpAnyH_take (i := 11) (v := (.slice ga B.fl.length gc)) rfl (by kernel_rfl) (by kernel_rfl) (by kernel_rfl) (fun _ _ _ h => h) (Or.inl ⟨by kernel_rfl, fun wx hS => by go_simp⟩) hS ?_
        refine wpAnyH_ready (rs := [12]) (by kernel_rfl) (by simp) ?_
        refine readyH_callK (i := 12) rfl (by kernel_rfl) (fun K hK => ?_)
        go_simp
        refine Calls.mono (HSF.out _ (Below.refl _ _).drew) ?_
        rintro e7 w7 ⟨rfl, b7⟩
        refine hK.out _ _ (hS.below hnb b7) (fun hS => ?_)
        clear hK
        refine wpAnyH_take (i := 13) (v := (.bool true)) rfl (by kernel_rfl) (by kernel_rfl) (by kernel_rfl) (fun _ _ _ h => h) (Or.inl ⟨by rfl, fun wx hS => by go_simp⟩) hS ?_
        have S7 : Bst W5 w7 base p v v6 r.2 := S6.after ((Below.refl _ _).drew.trans b7)
        have XR7 : Blk w7 R #[.slice none 0 0, .int .i64 0] 34 := Blk.below (Blk.drew HXRw.out) b7
        obtain ⟨W9, hW9, X9, _⟩ := setRow_named XR7 #[.slice la n lc, .int .i64 r.2.nx]
        refine wpAnyH_ready (rs := [14]) (by kernel_rfl) (by simp) ?_
        refine readyH_rowC 14 rfl (ty := 34) (x := .tmp 6) (y := .tmp 99) rfl rfl rfl R #[.slice la n lc, .int .i64 r.2.nx] (by kernel_rfl) (by kernel_rfl) 34 #[.slice none 0 0, .int .i64 0] XR7 (infoBk2 _ _) rfl (oneBk2 _ _ _ _) (hS.row _) (fun hS => ?_)
        refine wpAnyH_ready (rs := [15]) (by kernel_rfl) (by simp) ?_
        refine AllReadyH.cons rfl (fun K hK => ?_) AllReadyH.nil
        go_simp
        try rw [hW9] at hS
        refine hK.out _ _ hS (fun hS => ?_)
        clear hK
        refine wpAnyH_done (by kernel_rfl) ?_ _
        try rw [hW9]
        go_wp2
        refine bodyPost_ret (v := .tuple #[.agg #[.slice la n lc, .int .i64 r.2.nx], .bool true]) (step_results X9 rfl rfl) rfl ?_
        have hend := step_end HK.out HAP.out hB HB3.out hRw hR3 Hb4.out HO4.out HW4.out HB54.out S7 hW9
        exact ⟨_, v6, rfl, hend⟩
      · have s2 : (ar == 2) = false := by simpa using t2
        have s3 : (ar == 3) = false := by simpa using t3
        have s4 : (ar == 4) = false := by simpa using t4
        have T2 : Hid (arnd a0 ≠ 2) := fun h => t2 (by rw [← HAR.out]; exact h)
        have T3 : Hid (arnd a0 ≠ 3) := fun h => t3 (by rw [← HAR.out]; exact h)
        have T4 : Hid (arnd a0 ≠ 4) := fun h => t4 (by rw [← HAR.out]; exact h)
        clear t2 t3 t4
        obtain ⟨r, HRR⟩ : ∃ r, Hid (B.put (x0, x1, x2, x3, x4, x5) = r) := ⟨_, rfl⟩
        rw [HRR.out] at HRP
        have HACT : Hid (act = r.2) := by
          show _ = _
          rw [← HAT.out, ← HRR.out]
          unfold Bo.act
          rw [if_neg T2.out, if_neg T3.out, if_neg T4.out]
          first | done | rfl
        have HC6 : Hid (∀ (W5 : World), Below w.heap.size w W5 → Calls Try.prog 18 #[.pointer (some ⟨p, 0, none⟩), .agg #[.int .i64 x0, .int .i64 x1, .int .i64 x2, .int .i64 x3, .int .i64 x4, .bool x5]] W5 fun e w' => e = .returned (.int .i64 r.1) ∧ ∃ v', Bst W5 w' base p v v' r.2) := fun W5 hb => put_calls (x0, x1, x2, x3, x4, x5) W5 (Bk.below HK.out hb) (Nat.le_trans hB hb.size) _ HRR.out
        rw [HACT.out]
        clear HACT HAT HAT2
        go_enter Try.func10, Try.ntmps10
        go_wp2_with fail
        refine HAC.mono ?_
        rintro e wq ⟨rfl, hwq⟩
        obtain rfl : W3 = wq := hwq.symm
        go_wp2_with fail
        refine Calls.mono HRP.out ?_
        rintro e w4 ⟨lv', rfl, ho4, b4, own4⟩
        obtain ⟨la, lc, hlv, -⟩ := id ho4
        obtain ⟨n, hn⟩ : ∃ n, r.2.os.length = n := ⟨_, rfl⟩
        rw [hn] at hlv
        clear hn
        subst hlv
        have z4 := b4.size
        have hzz := HZ.out
        obtain ⟨nb, hnbe⟩ : ∃ nb, w4.heap.size = nb := ⟨_, rfl⟩
        obtain ⟨W5, hW5, X5, B5, Z5⟩ : ∃ W5, w4.alloc (.cells #[.slice la n lc, .int .i64 r.2.nx] 34) = W5 ∧ Blk W5 nb #[.slice la n lc, .int .i64 r.2.nx] 34 ∧ Below w4.heap.size w4 W5 ∧ W5.heap.size = nb + 1 := ⟨_, rfl, blk_new _ _ _ _ hnbe.symm, by go_grown, by simp; omega⟩
        have hb4 : Below w.heap.size w w4 := Below.trans HB3.out (b4.mono (by omega))
        have HB5 : Hid (Below w.heap.size w W5) := hb4.trans (B5.mono (by omega))
        have XA : Blk W5 (w.heap.size + 1) #[.int .i64 a0, .int .i64 x0, .int .i64 x1, .int .i64 x2, .int .i64 x3, .int .i64 x4, .bool x5] 39 := (Blk.below HY2.out b4).below B5
        have XR : Blk W5 R #[.slice none 0 0, .int .i64 0] 34 := by rw [← hR]; exact (Blk.below HX3.out b4).below B5
        have hnb : nb + 1 ≤ W5.heap.size := by omega
        have hnR : nb ≠ R := by omega
        have hnR1 : w.heap.size + 1 ≠ R := by omega
        have hnw : w.heap.size ≤ nb := by omega
        have hRw : w.heap.size ≤ R := by omega
        have hRn : R < nb + 1 := by omega
        have hR3 : R < W3.heap.size := by omega
        have HN0 : Hid (∀ wx, Rng w.heap.size (nb + 1) R W5 wx → wx.cell? ⟨nb, 0, none⟩ = some (.slice la n lc)) := fun wx hx => hx.cell (X5.cell rfl) hnw (Nat.lt_succ_self _) hnR
        have HN1 : Hid (∀ wx, Rng w.heap.size (nb + 1) R W5 wx → wx.cell? ⟨nb, 1, none⟩ = some (.int .i64 r.2.nx)) := fun wx hx => hx.cell (X5.cell rfl) hnw (Nat.lt_succ_self _) hnR
        have HD0 : Hid (∀ wx, Rng w.heap.size (nb + 1) R W5 wx → wx.cell? ⟨w.heap.size + 1, 1, none⟩ = some (.int .i64 x0)) := fun wx hx => hx.cell (XA.cell rfl) (by show w.heap.size ≤ w.heap.size + 1; omega) (by show w.heap.size + 1 < nb + 1; omega) hnR1
        have HD1 : Hid (∀ wx, Rng w.heap.size (nb + 1) R W5 wx → wx.cell? ⟨w.heap.size + 1, 2, none⟩ = some (.int .i64 x1)) := fun wx hx => hx.cell (XA.cell rfl) (by show w.heap.size ≤ w.heap.size + 1; omega) (by show w.heap.size + 1 < nb + 1; omega) hnR1
        have HD2 : Hid (∀ wx, Rng w.heap.size (nb + 1) R W5 wx → wx.cell? ⟨w.heap.size + 1, 3, none⟩ = some (.int .i64 x2)) := fun wx hx => hx.cell (XA.cell rfl) (by show w.heap.size ≤ w.heap.size + 1; omega) (by show w.heap.size + 1 < nb + 1; omega) hnR1
        have HD3 : Hid (∀ wx, Rng w.heap.size (nb + 1) R W5 wx → wx.cell? ⟨w.heap.size + 1, 4, none⟩ = some (.int .i64 x3)) := fun wx hx => hx.cell (XA.cell rfl) (by show w.heap.size ≤ w.heap.size + 1; omega) (by show w.heap.size + 1 < nb + 1; omega) hnR1
        have HD4 : Hid (∀ wx, Rng w.heap.size (nb + 1) R W5 wx → wx.cell? ⟨w.heap.size + 1, 5, none⟩ = some (.int .i64 x4)) := fun wx hx => hx.cell (XA.cell rfl) (by show w.heap.size ≤ w.heap.size + 1; omega) (by show w.heap.size + 1 < nb + 1; omega) hnR1
        have HD5 : Hid (∀ wx, Rng w.heap.size (nb + 1) R W5 wx → wx.cell? ⟨w.heap.size + 1, 6, none⟩ = some (.bool x5)) := fun wx hx => hx.cell (XA.cell rfl) (by show w.heap.size ≤ w.heap.size + 1; omega) (by show w.heap.size + 1 < nb + 1; omega) hnR1
        have HO4 : Hid _ := ho4
        have HW4 : Hid _ := own4
        have Hb4 : Hid _ := b4
        have HB54 : Hid _ := B5
        have HXR : Hid _ := XR
        clear ho4 own4 b4 B5 XA X5 y0 y1 c0 c1 c2 c3 c4 c5 c6 HX3 HY2 hb4 XR HAC HRA HRN HRC HRP
        go_wp2_with fail
        try rw [hR]
        clear hR hW5 Z1 Z2 hW1 hW2
        refine wp_region_held_drew (S := Rng w.heap.size (nb + 1) R W5) (by kernel_rfl) (Rng.start _ _ _ _) (fun hS => ?_)
        refine wpAnyH_take (i := 0) (v := (.agg #[.slice la n lc, .int .i64 r.2.nx])) rfl (by kernel_rfl) (by kernel_rfl) (by kernel_rfl) (fun _ _ _ h => h) (Or.inl ⟨by rfl, fun wx hS => by have s0 := HN0.out wx hS; have s1 := HN1.out wx hS; go_simp⟩) hS ?_
        refine wpAnyH_take (i := 1) (v := (.pointer (some ⟨p, 0, none⟩))) rfl (by kernel_rfl) (by kernel_rfl) (by kernel_rfl) (fun _ _ _ h => h) (Or.inl ⟨by rfl, fun wx hS => by go_simp⟩) hS ?_
        refine wpAnyH_take (i := 2) (v := (.pointer (some ⟨w.heap.size + 1, 1, none⟩))) rfl (by kernel_rfl) (by kernel_rfl) (by kernel_rfl) (fun _ _ _ h => h) (Or.inl ⟨by rfl, fun wx hS => by go_simp⟩) hS ?_
        refine wpAnyH_take (i := 3) (v := (.agg #[.int .i64 x0, .int .i64 x1, .int .i64 x2, .int .i64 x3, .int .i64 x4, .bool x5])) rfl (by kernel_rfl) (by kernel_rfl) (by kernel_rfl) (fun _ _ _ h => h) (Or.inl ⟨by rfl, fun wx hS => by have s0 := HD0.out wx hS; have s1 := HD1.out wx hS; have s2 := HD2.out wx hS; have s3 := HD3.out wx hS; have s4 := HD4.out wx hS; have s5 := HD5.out wx hS; go_simp⟩) hS ?_
        refine wpAnyH_take (i := 5) (v := (.int .i64 r.1)) rfl (by kernel_rfl) (by kernel_rfl) (by kernel_rfl) (fun _ _ _ h => h) (Or.inl ⟨by rfl, fun wx hS => by go_simp⟩) hS ?_
        refine wpAnyH_ready (rs := [4]) (by kernel_rfl) (by simp) ?_
        refine AllReadyH.cons rfl (fun K hK => ?_) AllReadyH.nil
        go_simp
        refine Calls.mono (HC6.out _ (Below.drew HB5.out)) ?_
        rintro e6 w6 ⟨rfl, v6, S6⟩
        refine hK.out _ _ (hS.ofb hnb hpl hvl S6.of) (fun hS => ?_)
        clear hK
        refine wpAnyH_take (i := 6) (v := (.bool true)) rfl (by kernel_rfl) (by kernel_rfl) (by kernel_rfl) (fun _ _ _ h => h) (Or.inl ⟨by rfl, fun wx hS => by go_simp⟩) hS ?_
        have XRw : Blk w6 R #[.slice none 0 0, .int .i64 0] 34 := Blk.ofb (Blk.drew HXR.out) S6.of (by omega) (fun e => by have := hvl R e; omega)
        obtain ⟨W9, hW9, X9, _⟩ := setRow_named XRw #[.slice la n lc, .int .i64 r.2.nx]
        refine wpAnyH_ready (rs := [7]) (by kernel_rfl) (by simp) ?_
        refine readyH_rowC 7 rfl (ty := 34) (x := .tmp 6) (y := .tmp 120) rfl rfl rfl R #[.slice la n lc, .int .i64 r.2.nx] (by kernel_rfl) (by kernel_rfl) 34 #[.slice none 0 0, .int .i64 0] XRw (infoBk2 _ _) rfl (oneBk2 _ _ _ _) (hS.row _) (fun hS => ?_)
        refine wpAnyH_ready (rs := [8]) (by kernel_rfl) (by simp) ?_
        refine AllReadyH.cons rfl (fun K hK => ?_) AllReadyH.nil
        go_simp
        try rw [hW9] at hS
        refine hK.out _ _ hS (fun hS => ?_)
        clear hK
        refine wpAnyH_done (by kernel_rfl) ?_ _
        try rw [hW9]
        go_wp2
        refine bodyPost_ret (v := .tuple #[.agg #[.slice la n lc, .int .i64 r.2.nx], .bool true]) (step_results X9 rfl rfl) rfl ?_
        have hend := step_end HK.out HAP.out hB HB3.out hRw hR3 Hb4.out HO4.out HW4.out (Below.drew HB54.out) S6 hW9
        exact ⟨_, v6, rfl, hend⟩
end Go.Proofs.Ytlhfdgeknpmdfaa

namespace Go.Proofs.Ytlhfdgeknpmdfaa
open Go.RowKit
set_option linter.unusedSimpArgs false
set_option linter.unusedVariables false
variable {base p : Nat} {v : Value} {B : Bo}
structure StepQ (a b : World) (base p : Nat) (v v1 lv lv1 : Value) (B1 : Bo) (q : Nat) : Prop where
  st : Bst a b base p v v1 B1
  od : Ods b lv1 B1.os
  ap : Apd lv1 p v1 b
  own : ∀ k, lv1.ownBlock = some k → lv.ownBlock = some k ∨ a.heap.size ≤ k
  bq : Blk b q #[lv1, .int .i64 B1.nx] 34
  q1 : a.heap.size ≤ q
  q2 : v1.ownBlock ≠ some q
  q3 : lv1.ownBlock ≠ some q
theorem ofb_first {a b c : World} (h : Below a.heap.size a b) (k : Ofb p v b c) : Ofb p v a c := (Ofb.of_below h).trans (fun q hq => Or.inl hq) k
theorem ofb_rowNew {a b : World} {q : Nat} (h : Ofb p v a b) (hq : a.heap.size ≤ q) (cs : Array Value) : Ofb p v a (b.setRow q cs) :=
  ⟨h.os, h.tape, h.output, by simpa using h.size, fun k hk h1 h2 => (setRow_other b q k cs (by omega)).trans (h.block k hk h1 h2)⟩
theorem stepq_a {lv lv1 v1 : Value} {B1 : Bo} {WA w6 : World} {zs : Array Value} {t : TypeId} (hpv : p < WA.heap.size ∧ ∀ k, v.ownBlock = some k → k < WA.heap.size) (hap : Apd lv p v WA ∧ base ≤ WA.heap.size) (od1 : Ods w6 lv1 B1.os) (S1 : Bst (WA.drew.alloc (.cells zs t)) w6 base p v v1 B1) (ap1 : Apd lv1 p v1 w6) (ow1 : ∀ k, lv1.ownBlock = some k → lv.ownBlock = some k ∨ (WA.drew.alloc (.cells zs t)).heap.size ≤ k)
    (X : Blk w6 WA.heap.size #[.slice none 0 0, .int .i64 0] 34 := by assumption) : StepQ WA (w6.setRow WA.heap.size #[lv1, .int .i64 B1.nx]) base p v v1 lv lv1 B1 WA.heap.size := by
  have e1 : (WA.drew.alloc (.cells zs t)).heap.size = WA.heap.size + 1 := by simp
  have hb : Below WA.heap.size WA (WA.drew.alloc (.cells zs t)) := ((Below.refl _ _).drew).alloc (Nat.le_refl _) _
  have hv1 : v1.ownBlock ≠ some WA.heap.size := fun e => by
    rcases S1.at_ _ e with h | h
    · have := hpv.2 _ h; omega
    · omega
  have hl1 : lv1.ownBlock ≠ some WA.heap.size := fun e => by
    rcases ow1 _ e with h | h
    · have := (hap.1 _ h).2.2; omega
    · omega
  refine ⟨(Bst.first hb S1).row rfl (Nat.le_refl _) (by omega) hv1 hap.2, od1.row rfl hl1, fun k hk => ?_, fun k hk => ?_, X.setRow _, Nat.le_refl _, hv1, hl1⟩
  · have := ap1 k hk
    exact ⟨this.1, this.2.1, by have e := this.2.2; simpa using e⟩
  · rcases ow1 k hk with h | h
    · exact Or.inl h
    · exact Or.inr (by omega)
theorem stepq_b {lv lv1 v1 : Value} {B1 : Bo} {WA w6 : World} {zs : Array Value} (hpv : p < WA.heap.size ∧ ∀ k, v.ownBlock = some k → k < WA.heap.size) (hap : Apd lv p v WA ∧ base ≤ WA.heap.size) (od1 : Ods w6 lv1 B1.os) (S1 : Bst WA.drew w6 base p v v1 B1) (ap1 : Apd lv1 p v1 w6) (ow1 : ∀ k, lv1.ownBlock = some k → lv.ownBlock = some k ∨ WA.drew.heap.size ≤ k)
    (X : Blk (w6.alloc (.cells zs 34)) w6.heap.size zs 34 := blk_new _ _ _ _ rfl) : StepQ WA ((w6.alloc (.cells zs 34)).setRow w6.heap.size #[lv1, .int .i64 B1.nx]) base p v v1 lv lv1 B1 w6.heap.size := by
  have z6 : WA.heap.size ≤ w6.heap.size := S1.of.size
  have hb : Below w6.heap.size w6 (w6.alloc (.cells zs 34)) := (Below.refl _ _).alloc (Nat.le_refl _) _
  have hv1 : v1.ownBlock ≠ some w6.heap.size := fun e => by have := (S1.bk.row.lt _ e).2; omega
  have hl1 : lv1.ownBlock ≠ some w6.heap.size := fun e => by have := (ap1 _ e).2.2; omega
  have hp6 := S1.bk.blk.lt
  refine ⟨((Bst.first (Below.refl _ _).drew S1).after hb).row rfl z6 (by omega) hv1 hap.2, (od1.below hb).row rfl hl1, fun k hk => ?_, fun k hk => ?_, X.setRow _, z6, hv1, hl1⟩
  · have := ap1 k hk
    exact ⟨this.1, this.2.1, by have e := this.2.2; simp; omega⟩
  · exact ow1 k hk
end Go.Proofs.Ytlhfdgeknpmdfaa

namespace Go.Proofs.Ytlhfdgeknpmdfaa
open Go.RowKit
set_option linter.unusedSimpArgs false
set_option linter.unusedVariables false
variable {v v' lv : Value} {B : Bo}
/-- Two books beside the document's. -/
structure Lp (w : World) (p p' T : Nat) (wr : World) (v v' lv : Value) (B : Bo) : Prop where
  kb : Bk wr w.heap.size p v B
  kc : Bk wr w.heap.size p' v' B
  rb : Blk wr T #[lv, .int .i64 B.nx] 34
  od : Ods wr lv B.os
  a1 : Apd lv p v wr
  a2 : Apd lv p' v' wr
  ne : p' ≠ p
  n1 : v.ownBlock ≠ some p'
  n2 : v'.ownBlock ≠ some p
  n3 : ∀ k, v.ownBlock = some k → v'.ownBlock ≠ some k
  t1 : T ≠ p
  t2 : T ≠ p'
  t3 : v.ownBlock ≠ some T
  t4 : v'.ownBlock ≠ some T
  t5 : lv.ownBlock ≠ some T
  lo : Below w.heap.size w wr
theorem bk_ofb {p base p2 : Nat} {v v2 : Value} {w w' : World} (h : Bk w base p2 v2 B) (o : Ofb p v w w') (h1 : p2 ≠ p) (h2 : v.ownBlock ≠ some p2) (h3 : ∀ k, v2.ownBlock = some k → k ≠ p ∧ v.ownBlock ≠ some k) : Bk w' base p2 v2 B :=
  ⟨h.blk.ofb o h1 h2, own_ofb h.row o h3, h.le, h.ne, h.inv⟩
theorem bk_off {base p : Nat} {v : Value} {w w' : World} {g : Nat} (h : Bk w base p v B) (o : Off g w w') (h1 : p ≠ g) (h2 : v.ownBlock ≠ some g) : Bk w' base p v B :=
  ⟨Blk.off h.blk o h1, World.ownsRow.kept h.row (offBy o) (Or.inr h2), h.le, h.ne, h.inv⟩
theorem bk_weak {base base2 p : Nat} {v : Value} {w : World} (h : Bk w base p v B) (hb : base2 ≤ base) : Bk w base2 p v B := ⟨h.blk, ownsRow_weakO h.row hb, Nat.le_trans hb h.le, h.ne, h.inv⟩
theorem at_ne {a b : World} {base p : Nat} {v v1 : Value} {B1 : Bo} (h : Bst a b base p v v1 B1) {x : Nat} (hx : v.ownBlock ≠ some x) (hl : x < a.heap.size) : v1.ownBlock ≠ some x := fun e => by
  rcases h.at_ x e with q | q
  · exact hx q
  · omega
section
variable {w wr wa wb wc : World} {p p' T q q2 : Nat} {v1 v1' lv1 lv2 : Value} {B1 : Bo}
theorem Lp.below {w wx : World} (L : Lp w p p' T wr v v' lv B) (h : Below wr.heap.size wr wx) : Lp w p p' T wx v v' lv B :=
  ⟨L.kb.below h, L.kc.below h, L.rb.below h, L.od.below h, fun k hk => ⟨(L.a1 k hk).1, (L.a1 k hk).2.1, Nat.lt_of_lt_of_le (L.a1 k hk).2.2 h.size⟩, fun k hk => ⟨(L.a2 k hk).1, (L.a2 k hk).2.1, Nat.lt_of_lt_of_le (L.a2 k hk).2.2 h.size⟩, L.ne, L.n1, L.n2, L.n3, L.t1, L.t2, L.t3, L.t4, L.t5, L.lo.trans (h.mono L.lo.size)⟩
theorem Lp.mid (L : Lp w p p' T wr v v' lv B) (Q : StepQ wr wa w.heap.size p v v1 lv lv1 B1 q) : Bk wa w.heap.size p' v' B ∧ Blk wa T #[lv, .int .i64 B.nx] 34 ∧ Ods wa lv B.os ∧ Apd lv p' v' wa :=
  ⟨bk_ofb L.kc Q.st.of L.ne L.n1 (fun k hk => ⟨fun e => L.n2 (by rw [← e]; exact hk), fun e => L.n3 k e hk⟩), Blk.ofb L.rb Q.st.of L.t1 L.t3, L.od.ofb Q.st.of (fun k hk => ⟨(L.a1 k hk).1, (L.a1 k hk).2.1⟩), fun k hk => ⟨(L.a2 k hk).1, (L.a2 k hk).2.1, Nat.lt_of_lt_of_le (L.a2 k hk).2.2 Q.st.of.size⟩⟩
theorem Lp.next (L : Lp w p p' T wr v v' lv B) (hp : w.heap.size ≤ p) (hp' : w.heap.size ≤ p') (hT : w.heap.size ≤ T) (Q : StepQ wr wa w.heap.size p v v1 lv lv1 B1 q) (Q2 : StepQ wa wb w.heap.size p' v' v1' lv lv2 B1 q2) :
    Blk wb T #[lv, .int .i64 B.nx] 34 ∧ Blk wb q #[lv1, .int .i64 B1.nx] 34 ∧ Ods wb lv1 B1.os ∧ ∀ wc, wb.setRow T #[lv1, .int .i64 B1.nx] = wc → Lp w p p' T wc v1 v1' lv1 B1 := by
  obtain ⟨m1, m2, m3, m4⟩ := L.mid Q
  have pl := L.kb.blk.lt
  have pl' := L.kc.blk.lt
  have Tl := L.rb.lt
  have z1 := Q.st.of.size
  have z2 := Q2.st.of.size
  have vl : ∀ k, v.ownBlock = some k → k < wr.heap.size := fun k hk => (L.kb.row.lt k hk).2
  have vl' : ∀ k, v'.ownBlock = some k → k < wr.heap.size := fun k hk => (L.kc.row.lt k hk).2
  have q1 := Q.q1
  have v1p' : v1.ownBlock ≠ some p' := at_ne Q.st L.n1 pl'
  have v1T : v1.ownBlock ≠ some T := at_ne Q.st L.t3 Tl
  have v1'p : v1'.ownBlock ≠ some p := at_ne Q2.st L.n2 (by omega)
  have v1'T : v1'.ownBlock ≠ some T := at_ne Q2.st L.t4 (by omega)
  have v1l : ∀ k, v1.ownBlock = some k → k < wa.heap.size := fun k hk => (Q.st.bk.row.lt k hk).2
  have v1v' : ∀ k, v1.ownBlock = some k → v'.ownBlock ≠ some k := fun k hk e => by
    rcases Q.st.at_ k hk with h | h
    · exact L.n3 k h e
    · have := vl' k e; omega
  have n3' : ∀ k, v1.ownBlock = some k → v1'.ownBlock ≠ some k := fun k hk => at_ne Q2.st (v1v' k hk) (v1l k hk)
  have lv1a : ∀ k, lv1.ownBlock = some k → k ≠ p' ∧ v'.ownBlock ≠ some k := fun k hk => by
    rcases Q.own k hk with h | h
    · exact ⟨(L.a2 k h).1, (L.a2 k h).2.1⟩
    · exact ⟨by omega, fun e => by have := vl' k e; omega⟩
  have lv1T : lv1.ownBlock ≠ some T := fun e => by
    rcases Q.own T e with h | h
    · exact L.t5 h
    · omega
  have kb2 : Bk wb w.heap.size p v1 B1 := bk_ofb Q.st.bk Q2.st.of (Ne.symm L.ne) L.n2 (fun k hk => ⟨fun e => v1p' (by rw [← e]; exact hk), v1v' k hk⟩)
  have od2 : Ods wb lv1 B1.os := Q.od.ofb Q2.st.of lv1a
  have rb2 := Blk.ofb m2 Q2.st.of L.t2 L.t4
  refine ⟨rb2, Blk.ofb Q.bq Q2.st.of (by omega) (fun e => by have := vl' q e; omega), od2, fun wc hW => ?_⟩
  have o : Off T wb wc := by rw [← hW]; exact (Off.refl _ _).setRow _
  have e9 := row_size hW
  have lo1 : Below w.heap.size w wa := Q.st.below L.kb L.lo L.lo.size
  have lo2 : Below w.heap.size w wb := Q2.st.below m1 lo1 lo1.size
  refine ⟨bk_off kb2 o (Ne.symm L.t1) v1T, bk_off Q2.st.bk o (Ne.symm L.t2) v1'T, by rw [← hW]; exact rb2.setRow _, od2.row hW lv1T, fun k hk => ?_, fun k hk => ?_, L.ne, v1p', v1'p, n3', L.t1, L.t2, v1T, v1'T, lv1T, below_row lo2 hW hT⟩
  · have := Q.ap k hk
    exact ⟨this.1, this.2.1, by have := this.2.2; omega⟩
  · have := Q.ap k hk
    refine ⟨(lv1a k hk).1, at_ne Q2.st (lv1a k hk).2 this.2.2, by have := this.2.2; omega⟩
end
set_option maxHeartbeats 8000000 in
set_option maxRecDepth 100000 in
theorem bytes2_calls (sv mv : Value) (l m : List Ac) (w : World) (hl : Acs w sv l) (hn : l.length * 56 ≤ 140737488351232) (hm : Acs w mv m) (hnm : m.length * 56 ≤ 140737488351232) :
    Calls Try.prog 3 #[sv, mv] w fun e w' => e = .returned (.bool true) ∧ Below w.heap.size w w' := by
  have HBG : Hid _ := begun_calls sv l w hl hn
  have HA : Hid _ := awake_calls
  obtain ⟨B, hBe⟩ : ∃ B, runs l 100 = B := ⟨_, rfl⟩
  rw [hBe] at HBG
  obtain ⟨ad, cap, rfl, hc⟩ := Elems.any hl
  obtain ⟨bd, cap2, rfl, hc2⟩ := Elems.any hm
  have HM : Hid _ := hc2
  clear hc hl hBe hc2 hm
  go_enter Try.func3, Try.ntmps3
  go_wp2_with fail
  refine Calls.mono HBG.out ?_
  rintro e w1 ⟨rfl, v1, K1, b1⟩
  have HI : Hid _ := K1.inv
  have hlen := K1.inv.len
  have z1 := b1.size
  have HOR : Hid _ := orders_calls w1 K1
  have HK1 : Hid _ := K1
  have hp1 := K1.blk.lt
  have hvl1 : ∀ k, v1.ownBlock = some k → k < w1.heap.size := fun k hk => (K1.row.lt k hk).2
  clear K1 HBG
  go_wp2_with fail
  refine Calls.mono HOR.out ?_
  rintro e w2 ⟨v2, rfl, own2, b2⟩
  obtain ⟨oa, oc, rfl⟩ := own_form own2
  have HO2 : Hid (w2.ownsRow w1.heap.size 28 6 (.slice oa B.os.length oc) B.os.length (odL B.os)) := own2
  have HK2 : Hid _ := Bk.below HK1.out b2
  have HB2 : Hid (Below w.heap.size w w2) := b1.trans (b2.mono z1)
  clear own2 b2 HOR
  go_wp2_with fail
  go_loopw [7] (fun i wr => ∃ k : Nat, k ≤ B.os.length ∧ i = .int .i64 k ∧ Hid ((∃ xs, wr.ownsRow w1.heap.size 28 6 (.slice oa B.os.length oc) B.os.length xs) ∧ Bk wr w.heap.size w.heap.size v1 B ∧ Below w.heap.size w wr)) (fun i _ => B.os.length - (intOf i).toNat)
  case atStart => exact ⟨0, Nat.zero_le _, rfl, ⟨_, HO2.out⟩, HK2.out, HB2.out⟩
  case round =>
    obtain ⟨k, hk, rfl, HR⟩ := hrel
    by_cases hlt : k < B.os.length
    · have hd : decide ((k : Int) < (B.os.length : Int)) = true := by simp only [decide_eq_true_eq]; omega
      have hd' : (k : Int) < (B.os.length : Int) := by omega
      obtain ⟨⟨xs, ho⟩, kk, bb⟩ := HR.out
      obtain ⟨g, rfl⟩ : ∃ g, oa = some ⟨g, 0, none⟩ := by
        rcases ho.2 with ⟨_, h0⟩ | ⟨g, c, cur, q, _⟩
        · omega
        · injection q with q1 _ _; exact ⟨g, q1⟩
      have hg := ho.lt g rfl
      have fz : wr.frozen? ⟨g, k * 6 + 3, none⟩ = false := ho.frozenAt _
      obtain ⟨ol, cc⟩ : ∃ u, wr.cell? ⟨g, k * 6 + 3, none⟩ = some u := ⟨_, (ho.cellAt _ (by omega)).trans (List.getElem?_eq_getElem (by rw [ho.1]; omega))⟩
      have HN : Hid ((∃ xs, (wr.setCell ⟨g, k * 6 + 3, none⟩ (.int .i64 77)).ownsRow w1.heap.size 28 6 (.slice (some ⟨g, 0, none⟩) B.os.length oc) B.os.length xs) ∧ Bk (wr.setCell ⟨g, k * 6 + 3, none⟩ (.int .i64 77)) w.heap.size w.heap.size v1 B ∧ Below w.heap.size w (wr.setCell ⟨g, k * 6 + 3, none⟩ (.int .i64 77))) := by
        have o : Off g wr (wr.setCell ⟨g, k * 6 + 3, none⟩ (.int .i64 77)) := Off.setCell (Off.refl g wr) (p := ⟨g, k * 6 + 3, none⟩) rfl _
        exact ⟨⟨_, own_setAt ho (by omega)⟩, bk_off kk o (by omega) (fun e => by have := hvl1 g e; omega), o.below (by omega) bb bb.size⟩
      clear ho kk bb HR hg
      go_wp2_with fail
      refine ⟨⟨k + 1, by omega, by norm_cast, HN.out⟩, by simp [intOf]; omega⟩
    · have hd : decide ((k : Int) < (B.os.length : Int)) = false := by simp only [decide_eq_false_iff_not]; omega
      have hd' : ¬ (k : Int) < (B.os.length : Int) := by omega
      rename World => w3
      have K3 : Bk w3 w.heap.size w.heap.size v1 B := HR.out.2.1
      have B3 : Below w.heap.size w w3 := HR.out.2.2
      have z3 := B3.size
      have hbsz : (boB B).size ≤ 140737488351232 := by
        have h1 : (boB B).size = (encs (bN B)).length := by show (encs (bN B)).toArray.size = _; simp
        have h2 := encs_len (bN B)
        have h3 := bN_len B
        omega
      have HOK : Hid (nm (boB B) = some (bN B) ∧ GoodP (bN B) ∧ nmD (boB B) = some (bN B) ∧ GoodD (bN B)) := ⟨bN_nm HI.out, bN_good HI.out, bN_nmD HI.out, bN_goodD HI.out⟩
      have HBK : Hid _ := bN_back B
      have HBY : Hid (∀ (wx : World) (p2 : Nat) (v2 : Value), Bk wx w.heap.size p2 v2 B → Calls Try.prog 8 #[.pointer (some ⟨p2, 0, none⟩)] wx fun e w' => e = .returned (.string (boB B)) ∧ Below wx.heap.size wx w') := fun wx p2 v2 h => bytes_calls wx h
      have HOF : Hid (∀ wx : World, Calls Try.prog 7 #[.string (boB B)] wx fun e w' => Below wx.heap.size wx w' ∧ ∃ p v, e = .returned (.tuple #[.pointer (some ⟨p, 0, none⟩), .int .i64 0]) ∧ Bk w' wx.heap.size p v B) := fun wx => by
        refine (of_calls (boB B) wx hbsz).mono ?_
        rintro e w' ⟨hb, ⟨hn, _⟩ | ⟨ms, p, v, h1, h2, h3, h4⟩⟩
        · exact absurd ⟨_, HOK.out.1, HOK.out.2.1⟩ hn
        · have : ms = bN B := by rw [HOK.out.1] at h1; exact (Option.some.inj h1).symm
          subst this
          rw [HBK.out] at h4
          exact ⟨hb, p, v, h3, h4⟩
      have HRF : Hid (∀ wx : World, Calls Try.prog 9 #[.string (boB B)] wx fun e w' => Below wx.heap.size wx w' ∧ ∃ lv, e = .returned (.tuple #[.agg #[lv, .int .i64 B.nx], .bool true]) ∧ Ods w' lv B.os ∧ ∀ k, lv.ownBlock = some k → wx.heap.size ≤ k ∧ k < w'.heap.size) := fun wx => by
        refine (refOf_calls (boB B) wx hbsz).mono ?_
        rintro e w' ⟨hb, ⟨hn, _⟩ | ⟨ms, lv, h1, h2, h3, h4, h5⟩⟩
        · exact absurd ⟨_, HOK.out.2.2.1, HOK.out.2.2.2⟩ hn
        · have : ms = bN B := by rw [HOK.out.2.2.1] at h1; exact (Option.some.inj h1).symm
          subst this
          rw [bN_cnt, bN_rd _ (Nat.le_refl _), List.take_length] at h4
          rw [bN_0] at h3
          exact ⟨hb, lv, h3, h4, h5⟩
      have hbb : ((boB B).toList == (boB B).toList) = true := by simp
      have hbn : ((boB B).toList != (boB B).toList) = false := by simp
      obtain ⟨Xs, hXs⟩ : ∃ Xs, boB B = Xs := ⟨_, rfl⟩
      rw [hXs] at HBY HOF HRF hbb hbn
      have HK3 : Hid _ := K3
      clear hXs hbsz HOK HBK HR HO2 HK2 HB2 K3
      go_wp2_with fail
      refine Calls.mono (HBY.out _ _ _ HK3.out) ?_
      rintro e w4 ⟨rfl, b4⟩
      have K4 := Bk.below HK3.out b4
      have B4 := B3.trans (b4.mono z3)
      have z4 := B4.size
      have hz34 := b4.size
      have HK4 : Hid _ := K4
      clear K4 HK3 b4
      go_wp2_with fail
      refine Calls.mono (HOF.out _) ?_
      rintro e w5 ⟨b5, p', v', rfl, C5⟩
      have K5 := Bk.below HK4.out b5
      have B5 := B4.trans (b5.mono z4)
      have z5 := B5.size
      have hz45 := b5.size
      have hc1 : w4.heap.size ≤ p' := C5.le
      have hc2 : ∀ k, v'.ownBlock = some k → w4.heap.size ≤ k := C5.rowb
      have hk1 := (HK4.out).blk.lt
      have hk2 : ∀ k, v1.ownBlock = some k → k < w4.heap.size := fun k hk => ((Bk.row HK4.out).lt k hk).2
      have HC5 : Hid (Bk w5 w.heap.size p' v' B) := bk_weak C5 z4
      have HK5 : Hid _ := K5
      clear K5 HK4 b5 C5
      go_wp2_with fail
      refine Calls.mono (HBY.out _ _ _ HC5.out) ?_
      rintro e w6 ⟨rfl, b6⟩
      have HC6 : Hid _ := Bk.below HC5.out b6
      have HK6 : Hid _ := Bk.below HK5.out b6
      have B6 := B5.trans (b6.mono z5)
      have z6 := B6.size
      have hz56 := b6.size
      clear HC5 HK5 b6
      go_wp2_with fail
      refine Calls.mono (HBY.out _ _ _ HK6.out) ?_
      rintro e w7 ⟨rfl, b7⟩
      have HC7 : Hid _ := Bk.below HC6.out b7
      have HK7 : Hid _ := Bk.below HK6.out b7
      have B7 := B6.trans (b7.mono z6)
      have z7 := B7.size
      have hz67 := b7.size
      clear HC6 HK6 b7
      go_wp2_with fail
      refine Calls.mono (HBY.out _ _ _ HK7.out) ?_
      rintro e w8 ⟨rfl, b8⟩
      have HC8 : Hid _ := Bk.below HC7.out b8
      have HK8 : Hid _ := Bk.below HK7.out b8
      have B8 := B7.trans (b8.mono z7)
      have z8 := B8.size
      have hz78 := b8.size
      clear HC7 HK7 b8
      go_wp2_with fail
      refine Calls.mono (HRF.out _) ?_
      rintro e w9 ⟨b9, lv, rfl, od9, lvo⟩
      have C9 := Bk.below HC8.out b9
      have K9 := Bk.below HK8.out b9
      have B9 := B8.trans (b9.mono z8)
      have z9 := B9.size
      have hz89 := b9.size
      obtain ⟨la, lc, rfl, -⟩ := id od9
      obtain ⟨W0, hW0, X0, b0, Z0⟩ : ∃ W0, w9.alloc (.cells #[.slice la B.os.length lc, .int .i64 B.nx] 34) = W0 ∧ Blk W0 w9.heap.size #[.slice la B.os.length lc, .int .i64 B.nx] 34 ∧ Below w9.heap.size w9 W0 ∧ W0.heap.size = w9.heap.size + 1 := ⟨_, rfl, blk_new _ _ _ _ rfl, by go_grown, by simp⟩
      obtain ⟨T, hT⟩ : ∃ T, w9.heap.size = T := ⟨_, rfl⟩
      have hc3 : ∀ k, v'.ownBlock = some k → k < w9.heap.size := fun k hk => (C9.row.lt k hk).2
      have hc4 := C9.blk.lt
      have L0 : Lp w w.heap.size p' T W0 v1 v' (.slice la B.os.length lc) B := by
        rw [hT] at X0
        refine ⟨K9.below b0, C9.below b0, X0, od9.below b0, fun k hk => ?_, fun k hk => ?_, by omega, fun e => by have := hk2 _ e; omega, fun e => by have := hc2 _ e; omega, fun k hk e => by have := hk2 k hk; have := hc2 k e; omega, by omega, by omega, fun e => by have := hk2 _ e; omega, fun e => by have := hc3 _ e; omega, fun e => by have := (lvo _ e).2; omega, B9.trans (b0.mono z9)⟩
        · have h1 := lvo k hk
          exact ⟨by omega, fun e => by have := hk2 k e; omega, by omega⟩
        · have h1 := lvo k hk
          have h2 : w8.heap.size ≤ k := h1.1
          refine ⟨?_, fun e => ?_, by omega⟩
          · have := (HC8.out).blk.lt; omega
          · have := ((Bk.row HC8.out).lt k e).2; omega
      have HL0 : Hid _ := L0
      have hpw : w.heap.size ≤ p' := by omega
      have hTw : w.heap.size ≤ T := by omega
      clear L0 X0 od9 lvo C9 K9 HC8 HK8 b9 hc1 hc2 hc3 hc4 hk1 hk2 HBY HOF HRF hbb hbn B9 B8 B7 B6 B5 B4 z3 z4 z5 z6 z7 z8 hz34 hz45 hz56 hz67 hz78 hz89 B3 hvl1 b0 HK1 HI
      clear hlen hp1 z1 b1
      go_wp2_with fail
      try rw [hT]
      clear hW0 hT Z0 z9
      go_loopw [12] (fun i wr => ∃ (k : Nat) (B' : Bo) (v v' lv : Value), k ≤ m.length ∧ k ≤ 20 ∧ i = .int .i64 k ∧ Hid (Lp w w.heap.size p' T wr v v' lv B')) (fun i _ => 20 - (intOf i).toNat)
      case atStart => exact ⟨0, B, v1, v', _, Nat.zero_le _, Nat.zero_le _, rfl, HL0.out⟩
      case round =>
        clear HL0
        obtain ⟨k, B', v, v2', lv, hk, hk20, rfl, HL⟩ := hrel
        by_cases hlt : k < m.length
        · have hd : decide ((k : Int) < (m.length : Int)) = true := by simp only [decide_eq_true_eq]; omega
          have hkl : (k : Int) < (m.length : Int) := by omega
          by_cases hlt2 : k < 20
          · have hd2 : decide ((k : Int) < 20) = true := by simp only [decide_eq_true_eq]; omega
            obtain ⟨g, off, rfl, -, hgl, hcs, -⟩ := HM.out k hlt
            obtain ⟨a, ha⟩ : ∃ a, m[k] = a := ⟨_, rfl⟩
            rw [ha] at hcs
            obtain ⟨a0, x0, x1, x2, x3, x4, x5⟩ := a
            obtain ⟨wa, rfl⟩ : ∃ wa, wa = wr := ⟨wr, rfl⟩
            have LL := HL.out
            have HPV : Hid (w.heap.size < wa.heap.size ∧ ∀ k, v.ownBlock = some k → k < wa.heap.size) := ⟨LL.kb.blk.lt, fun k hk => (LL.kb.row.lt k hk).2⟩
            have HAW : Hid (Apd lv w.heap.size v wa ∧ w.heap.size ≤ wa.heap.size) := ⟨LL.a1, LL.lo.size⟩
            obtain ⟨B1, hB1⟩ : ∃ B1, B'.act (a0, x0, x1, x2, x3, x4, x5) = B1 := ⟨_, rfl⟩
            have HST : Hid (∀ W5, Below wa.heap.size wa W5 → Calls Try.prog 10 #[.pointer (some ⟨w.heap.size, 0, none⟩), .agg #[lv, .int .i64 B'.nx], .agg #[.int .i64 a0, .int .i64 x0, .int .i64 x1, .int .i64 x2, .int .i64 x3, .int .i64 x4, .bool x5]] W5 (StepP lv W5 w.heap.size w.heap.size v B1)) := fun W5 hb => by
              have := step_calls lv a0 x0 x1 x2 x3 x4 x5 W5 (LL.kb.below hb) (Nat.le_trans LL.lo.size hb.size) (LL.od.below hb) (fun k hk => ⟨(LL.a1 k hk).1, (LL.a1 k hk).2.1, Nat.lt_of_lt_of_le (LL.a1 k hk).2.2 hb.size⟩)
              rw [hB1] at this
              exact this
            have HS0 : Hid (∀ wx, Ofb w.heap.size v wa wx → wx.cell? ⟨T, 0, none⟩ = some lv) := fun wx hx => hx.cell (LL.rb.cell rfl) LL.t1 LL.t3
            have HS1 : Hid (∀ wx, Ofb w.heap.size v wa wx → wx.cell? ⟨T, 1, none⟩ = some (.int .i64 B'.nx)) := fun wx hx => hx.cell (LL.rb.cell rfl) LL.t1 LL.t3
            have hgv : v.ownBlock ≠ some g := fun e => by have := LL.kb.rowb g e; omega
            have hgv' : v2'.ownBlock ≠ some g := fun e => by have := LL.kc.rowb g e; omega
            have hgc : ∀ j u, (acC (a0, x0, x1, x2, x3, x4, x5))[j]? = some u → wa.cell? ⟨g, off + k * 7 + j, none⟩ = some u := fun j u hu => (LL.lo.cell (p := ⟨g, off + k * 7 + j, none⟩) hgl).trans (hcs j u hu)
            have HD0 : Hid (∀ wx, Ofb w.heap.size v wa wx → wx.cell? ⟨g, off + k * 7, none⟩ = some (.int .i64 a0)) := fun wx hx => hx.cell (hgc 0 _ rfl) (by show g ≠ _; omega) hgv
            have HD1 : Hid (∀ wx, Ofb w.heap.size v wa wx → wx.cell? ⟨g, off + k * 7 + 1, none⟩ = some (.int .i64 x0)) := fun wx hx => hx.cell (hgc 1 _ rfl) (by show g ≠ _; omega) hgv
            have HD2 : Hid (∀ wx, Ofb w.heap.size v wa wx → wx.cell? ⟨g, off + k * 7 + 2, none⟩ = some (.int .i64 x1)) := fun wx hx => hx.cell (hgc 2 _ rfl) (by show g ≠ _; omega) hgv
            have HD3 : Hid (∀ wx, Ofb w.heap.size v wa wx → wx.cell? ⟨g, off + k * 7 + 3, none⟩ = some (.int .i64 x2)) := fun wx hx => hx.cell (hgc 3 _ rfl) (by show g ≠ _; omega) hgv
            have HD4 : Hid (∀ wx, Ofb w.heap.size v wa wx → wx.cell? ⟨g, off + k * 7 + 4, none⟩ = some (.int .i64 x3)) := fun wx hx => hx.cell (hgc 4 _ rfl) (by show g ≠ _; omega) hgv
            have HD5 : Hid (∀ wx, Ofb w.heap.size v wa wx → wx.cell? ⟨g, off + k * 7 + 5, none⟩ = some (.int .i64 x4)) := fun wx hx => hx.cell (hgc 5 _ rfl) (by show g ≠ _; omega) hgv
            have HD6 : Hid (∀ wx, Ofb w.heap.size v wa wx → wx.cell? ⟨g, off + k * 7 + 6, none⟩ = some (.bool x5)) := fun wx hx => hx.cell (hgc 6 _ rfl) (by show g ≠ _; omega) hgv
            have HGC : Hid _ := hgc
            clear LL hcs ha hgc
            go_upto_region 16 with fail
            go_cut [13, 14] (fun s13 s14 wx => s14 = .bool true ∧ ∃ q lv1 v1, s13 = .pointer (some ⟨q, 0, none⟩) ∧ StepQ wa wx w.heap.size w.heap.size v v1 lv lv1 B1 q)
            case first =>
              refine wp_region_held_drew (S := (fun wx => Ofb w.heap.size v wa wx)) (by kernel_rfl) (Ofb.of_below (Below.refl _ _).drew) (fun hS => ?_)
              refine wpAnyH_take (i := 0) (v := (.pointer (some ⟨w.heap.size, 0, none⟩))) rfl (by kernel_rfl) (by kernel_rfl) (by kernel_rfl) (fun _ _ _ h => h) (Or.inl ⟨by rfl, fun wx hS => by go_simp⟩) hS ?_
              refine wpAnyH_take (i := 1) (v := (.agg #[lv, .int .i64 B'.nx])) rfl (by kernel_rfl) (by kernel_rfl) (by kernel_rfl) (fun _ _ _ h => h) (Or.inl ⟨by rfl, fun wx hS => by have s0 := HS0.out wx hS; have s1 := HS1.out wx hS; go_simp⟩) hS ?_
              refine wpAnyH_take (i := 2) (v := (.slice (some ⟨g, off, none⟩) m.length cap2)) rfl (by kernel_rfl) (by kernel_rfl) (by kernel_rfl) (fun _ _ _ h => h) (Or.inl ⟨by rfl, fun wx hS => by go_simp⟩) hS ?_
              refine wpAnyH_take (i := 3) (v := (.int .i64 k)) rfl (by kernel_rfl) (by kernel_rfl) (by kernel_rfl) (fun _ _ _ h => h) (Or.inl ⟨by rfl, fun wx hS => by go_simp⟩) hS ?_
              refine wpAnyH_take (i := 4) (v := (.pointer (some ⟨g, off + k * 7, none⟩))) rfl (by kernel_rfl) (by kernel_rfl) (by kernel_rfl) (fun _ _ _ h => h) (Or.inl ⟨by rfl, fun wx hS => by go_simp⟩) hS ?_
              refine wpAnyH_take (i := 5) (v := (.agg #[.int .i64 a0, .int .i64 x0, .int .i64 x1, .int .i64 x2, .int .i64 x3, .int .i64 x4, .bool x5])) rfl (by kernel_rfl) (by kernel_rfl) (by kernel_rfl) (fun _ _ _ h => h) (Or.inl ⟨by rfl, fun wx hS => by have s0 := HD0.out wx hS; have s1 := HD1.out wx hS; have s2 := HD2.out wx hS; have s3 := HD3.out wx hS; have s4 := HD4.out wx hS; have s5 := HD5.out wx hS; have s6 := HD6.out wx hS; go_simp⟩) hS ?_
              refine wpAnyH_ready (rs := [6, 10]) (by kernel_rfl) (by simp) ?_
              refine AllReadyH.cons rfl (fun K hK => ?_) (AllReadyH.cons rfl (fun K hK => ?_) AllReadyH.nil)
              · go_simp
                refine Calls.mono (HST.out _ (Below.refl _ _).drew) ?_
                rintro e6 w6 ⟨lv1, v1, rfl, od1, S1, ap1, ow1⟩
                have z6 := S1.of.size
                have z7 : wa.heap.size ≤ w6.heap.size := z6
                refine hK.out _ _ (ofb_first (Below.refl _ _).drew S1.of) (fun hS => ?_)
                clear hK
                refine wpAnyH_take (i := 7) (v := (.tuple #[.agg #[lv1, .int .i64 B1.nx], .bool true])) rfl (by kernel_rfl) (by kernel_rfl) (by kernel_rfl) (fun _ _ _ h => h) (Or.inl ⟨by rfl, fun wx hS => by go_simp⟩) hS ?_
                refine wpAnyH_take (i := 8) (v := (.agg #[lv1, .int .i64 B1.nx])) rfl (by kernel_rfl) (by kernel_rfl) (by kernel_rfl) (fun _ _ _ h => h) (Or.inl ⟨by rfl, fun wx hS => by go_simp⟩) hS ?_
                refine wpAnyH_take (i := 9) (v := (.bool true)) rfl (by kernel_rfl) (by kernel_rfl) (by kernel_rfl) (fun _ _ _ h => h) (Or.inl ⟨by rfl, fun wx hS => by go_simp⟩) hS ?_
                refine wpAnyH_ready (rs := [10]) (by kernel_rfl) (by simp) ?_
                refine AllReadyH.cons rfl (fun K hK => ?_) AllReadyH.nil
                go_simp
                refine hK.out _ _ (ofb_alloc hS _) (fun hS => ?_)
                clear hK
                refine wpAnyH_ready (rs := [11]) (by kernel_rfl) (by simp) ?_
                refine readyH_rowC 11 rfl (ty := 34) (x := .tmp 13) (y := .tmp 76) rfl rfl rfl _ #[lv1, .int .i64 B1.nx] (by kernel_rfl) (by kernel_rfl) 34 #[.slice none 0 0, .int .i64 0] (blk_new w6 w6.heap.size _ _ rfl) (infoBk2 _ _) rfl (oneBkO od1 _) (ofb_rowNew hS (by omega) _) (fun hS => ?_)
                refine wpAnyH_ready (rs := [12]) (by kernel_rfl) (by simp) ?_
                refine AllReadyH.cons rfl (fun K hK => ?_) AllReadyH.nil
                go_simp
                refine hK.out _ _ hS (fun hS => ?_)
                clear hK
                refine wpAnyH_done (by kernel_rfl) ?_ _
                go_wp2_with fail
                go_meet
                exact ⟨rfl, _, lv1, v1, rfl, stepq_b HPV.out HAW.out od1 S1 ap1 ow1⟩
              · go_simp
                refine hK.out _ _ (ofb_alloc hS _) (fun hS => ?_)
                clear hK
                refine wpAnyH_ready (rs := [6]) (by kernel_rfl) (by simp) ?_
                refine AllReadyH.cons rfl (fun K hK => ?_) AllReadyH.nil
                go_simp
                refine Calls.mono (HST.out _ (((Below.refl _ _).drew).alloc (Nat.le_refl _) _)) ?_
                rintro e6 w6 ⟨lv1, v1, rfl, od1, S1, ap1, ow1⟩
                refine hK.out _ _ (ofb_first (((Below.refl _ _).drew).alloc (Nat.le_refl _) _) S1.of) (fun hS => ?_)
                clear hK
                refine wpAnyH_take (i := 7) (v := (.tuple #[.agg #[lv1, .int .i64 B1.nx], .bool true])) rfl (by kernel_rfl) (by kernel_rfl) (by kernel_rfl) (fun _ _ _ h => h) (Or.inl ⟨by rfl, fun wx hS => by go_simp⟩) hS ?_
                refine wpAnyH_take (i := 8) (v := (.agg #[lv1, .int .i64 B1.nx])) rfl (by kernel_rfl) (by kernel_rfl) (by kernel_rfl) (fun _ _ _ h => h) (Or.inl ⟨by rfl, fun wx hS => by go_simp⟩) hS ?_
                refine wpAnyH_take (i := 9) (v := (.bool true)) rfl (by kernel_rfl) (by kernel_rfl) (by kernel_rfl) (fun _ _ _ h => h) (Or.inl ⟨by rfl, fun wx hS => by go_simp⟩) hS ?_
                have XQ : Blk w6 wa.heap.size #[.slice none 0 0, .int .i64 0] 34 := Blk.ofb (blk_new wa.drew wa.heap.size _ _ rfl) S1.of (by have := HPV.out.1; omega) (fun e => by have := HPV.out.2 _ e; omega)
                refine wpAnyH_ready (rs := [11]) (by kernel_rfl) (by simp) ?_
                refine readyH_rowC 11 rfl (ty := 34) (x := .tmp 13) (y := .tmp 76) rfl rfl rfl _ #[lv1, .int .i64 B1.nx] (by kernel_rfl) (by kernel_rfl) 34 #[.slice none 0 0, .int .i64 0] XQ (infoBk2 _ _) rfl (oneBkO od1 _) (ofb_rowNew hS (by omega) _) (fun hS => ?_)
                refine wpAnyH_ready (rs := [12]) (by kernel_rfl) (by simp) ?_
                refine AllReadyH.cons rfl (fun K hK => ?_) AllReadyH.nil
                go_simp
                refine hK.out _ _ hS (fun hS => ?_)
                clear hK
                refine wpAnyH_done (by kernel_rfl) ?_ _
                go_wp2_with fail
                go_meet
                exact ⟨rfl, _, lv1, v1, rfl, stepq_a HPV.out HAW.out od1 S1 ap1 ow1⟩
            case rest =>
              obtain ⟨rfl, q, lv1, v1n, rfl, Q1⟩ := hcut
              rename World => wb
              have LM := HL.out.mid Q1
              have HQ1 : Hid _ := Q1
              have HOL : Hid _ := HL.out
              have z16 := Q1.st.of.size
              have HPV2 : Hid (p' < wb.heap.size ∧ ∀ k, v2'.ownBlock = some k → k < wb.heap.size) := ⟨LM.1.blk.lt, fun k hk => (LM.1.row.lt k hk).2⟩
              have hwb : w.heap.size ≤ wb.heap.size := Nat.le_trans HAW.out.2 z16
              have HAW2 : Hid (Apd lv p' v2' wb ∧ w.heap.size ≤ wb.heap.size) := ⟨LM.2.2.2, hwb⟩
              have HST2 : Hid (∀ W5, Below wb.heap.size wb W5 → Calls Try.prog 10 #[.pointer (some ⟨p', 0, none⟩), .agg #[lv, .int .i64 B'.nx], .agg #[.int .i64 a0, .int .i64 x0, .int .i64 x1, .int .i64 x2, .int .i64 x3, .int .i64 x4, .bool x5]] W5 (StepP lv W5 w.heap.size p' v2' B1)) := fun W5 hb => by
                have := step_calls lv a0 x0 x1 x2 x3 x4 x5 W5 (LM.1.below hb) (Nat.le_trans hwb hb.size) (LM.2.2.1.below hb) (fun k hk => ⟨(LM.2.2.2 k hk).1, (LM.2.2.2 k hk).2.1, Nat.lt_of_lt_of_le (LM.2.2.2 k hk).2.2 hb.size⟩)
                rw [hB1] at this
                exact this
              have HT0 : Hid (∀ wx, Ofb p' v2' wb wx → wx.cell? ⟨T, 0, none⟩ = some lv) := fun wx hx => hx.cell (LM.2.1.cell rfl) HL.out.t2 HL.out.t4
              have HT1 : Hid (∀ wx, Ofb p' v2' wb wx → wx.cell? ⟨T, 1, none⟩ = some (.int .i64 B'.nx)) := fun wx hx => hx.cell (LM.2.1.cell rfl) HL.out.t2 HL.out.t4
              have HE0 : Hid (∀ wx, Ofb p' v2' wb wx → wx.cell? ⟨g, off + k * 7, none⟩ = some (.int .i64 a0)) := fun wx hx => hx.cell (HD0.out _ Q1.st.of) (by show g ≠ _; omega) hgv'
              have HE1 : Hid (∀ wx, Ofb p' v2' wb wx → wx.cell? ⟨g, off + k * 7 + 1, none⟩ = some (.int .i64 x0)) := fun wx hx => hx.cell (HD1.out _ Q1.st.of) (by show g ≠ _; omega) hgv'
              have HE2 : Hid (∀ wx, Ofb p' v2' wb wx → wx.cell? ⟨g, off + k * 7 + 2, none⟩ = some (.int .i64 x1)) := fun wx hx => hx.cell (HD2.out _ Q1.st.of) (by show g ≠ _; omega) hgv'
              have HE3 : Hid (∀ wx, Ofb p' v2' wb wx → wx.cell? ⟨g, off + k * 7 + 3, none⟩ = some (.int .i64 x2)) := fun wx hx => hx.cell (HD3.out _ Q1.st.of) (by show g ≠ _; omega) hgv'
              have HE4 : Hid (∀ wx, Ofb p' v2' wb wx → wx.cell? ⟨g, off + k * 7 + 4, none⟩ = some (.int .i64 x3)) := fun wx hx => hx.cell (HD4.out _ Q1.st.of) (by show g ≠ _; omega) hgv'
              have HE5 : Hid (∀ wx, Ofb p' v2' wb wx → wx.cell? ⟨g, off + k * 7 + 5, none⟩ = some (.int .i64 x4)) := fun wx hx => hx.cell (HD5.out _ Q1.st.of) (by show g ≠ _; omega) hgv'
              have HE6 : Hid (∀ wx, Ofb p' v2' wb wx → wx.cell? ⟨g, off + k * 7 + 6, none⟩ = some (.bool x5)) := fun wx hx => hx.cell (HD6.out _ Q1.st.of) (by show g ≠ _; omega) hgv'
              clear LM Q1 HST HS0 HS1 HD0 HD1 HD2 HD3 HD4 HD5 HD6 HPV HAW
              go_upto_region 17 with fail
              go_cut [15, 16] (fun s13 s14 wx => s14 = .bool true ∧ ∃ q lv1 v1, s13 = .pointer (some ⟨q, 0, none⟩) ∧ StepQ wb wx w.heap.size p' v2' v1 lv lv1 B1 q)
              case first =>
                refine wp_region_held_drew (S := (fun wx => Ofb p' v2' wb wx)) (by kernel_rfl) (Ofb.of_below (Below.refl _ _).drew) (fun hS => ?_)
                refine wpAnyH_take (i := 0) (v := (.pointer (some ⟨p', 0, none⟩))) rfl (by kernel_rfl) (by kernel_rfl) (by kernel_rfl) (fun _ _ _ h => h) (Or.inl ⟨by rfl, fun wx hS => by go_simp⟩) hS ?_
                refine wpAnyH_take (i := 1) (v := (.agg #[lv, .int .i64 B'.nx])) rfl (by kernel_rfl) (by kernel_rfl) (by kernel_rfl) (fun _ _ _ h => h) (Or.inl ⟨by rfl, fun wx hS => by have s0 := HT0.out wx hS; have s1 := HT1.out wx hS; go_simp⟩) hS ?_
                refine wpAnyH_take (i := 2) (v := (.slice (some ⟨g, off, none⟩) m.length cap2)) rfl (by kernel_rfl) (by kernel_rfl) (by kernel_rfl) (fun _ _ _ h => h) (Or.inl ⟨by rfl, fun wx hS => by go_simp⟩) hS ?_
                refine wpAnyH_take (i := 3) (v := (.int .i64 k)) rfl (by kernel_rfl) (by kernel_rfl) (by kernel_rfl) (fun _ _ _ h => h) (Or.inl ⟨by rfl, fun wx hS => by go_simp⟩) hS ?_
                refine wpAnyH_take (i := 4) (v := (.pointer (some ⟨g, off + k * 7, none⟩))) rfl (by kernel_rfl) (by kernel_rfl) (by kernel_rfl) (fun _ _ _ h => h) (Or.inl ⟨by rfl, fun wx hS => by go_simp⟩) hS ?_
                refine wpAnyH_take (i := 5) (v := (.agg #[.int .i64 a0, .int .i64 x0, .int .i64 x1, .int .i64 x2, .int .i64 x3, .int .i64 x4, .bool x5])) rfl (by kernel_rfl) (by kernel_rfl) (by kernel_rfl) (fun _ _ _ h => h) (Or.inl ⟨by rfl, fun wx hS => by have s0 := HE0.out wx hS; have s1 := HE1.out wx hS; have s2 := HE2.out wx hS; have s3 := HE3.out wx hS; have s4 := HE4.out wx hS; have s5 := HE5.out wx hS; have s6 := HE6.out wx hS; go_simp⟩) hS ?_
                refine wpAnyH_ready (rs := [6, 10]) (by kernel_rfl) (by simp) ?_
                refine AllReadyH.cons rfl (fun K hK => ?_) (AllReadyH.cons rfl (fun K hK => ?_) AllReadyH.nil)
                · go_simp
                  refine Calls.mono (HST2.out _ (Below.refl _ _).drew) ?_
                  rintro e6 w6 ⟨lv1, v1, rfl, od1, S1, ap1, ow1⟩
                  have z6 := S1.of.size
                  have z7 : wb.heap.size ≤ w6.heap.size := z6
                  refine hK.out _ _ (ofb_first (Below.refl _ _).drew S1.of) (fun hS => ?_)
                  clear hK
                  refine wpAnyH_take (i := 7) (v := (.tuple #[.agg #[lv1, .int .i64 B1.nx], .bool true])) rfl (by kernel_rfl) (by kernel_rfl) (by kernel_rfl) (fun _ _ _ h => h) (Or.inl ⟨by rfl, fun wx hS => by go_simp⟩) hS ?_
                  refine wpAnyH_take (i := 8) (v := (.agg #[lv1, .int .i64 B1.nx])) rfl (by kernel_rfl) (by kernel_rfl) (by kernel_rfl) (fun _ _ _ h => h) (Or.inl ⟨by rfl, fun wx hS => by go_simp⟩) hS ?_
                  refine wpAnyH_take (i := 9) (v := (.bool true)) rfl (by kernel_rfl) (by kernel_rfl) (by kernel_rfl) (fun _ _ _ h => h) (Or.inl ⟨by rfl, fun wx hS => by go_simp⟩) hS ?_
                  refine wpAnyH_ready (rs := [10]) (by kernel_rfl) (by simp) ?_
                  refine AllReadyH.cons rfl (fun K hK => ?_) AllReadyH.nil
                  go_simp
                  refine hK.out _ _ (ofb_alloc hS _) (fun hS => ?_)
                  clear hK
                  refine wpAnyH_ready (rs := [11]) (by kernel_rfl) (by simp) ?_
                  refine readyH_rowC 11 rfl (ty := 34) (x := .tmp 15) (y := .tmp 86) rfl rfl rfl _ #[lv1, .int .i64 B1.nx] (by kernel_rfl) (by kernel_rfl) 34 #[.slice none 0 0, .int .i64 0] (blk_new w6 w6.heap.size _ _ rfl) (infoBk2 _ _) rfl (oneBkO od1 _) (ofb_rowNew hS (by omega) _) (fun hS => ?_)
                  refine wpAnyH_ready (rs := [12]) (by kernel_rfl) (by simp) ?_
                  refine AllReadyH.cons rfl (fun K hK => ?_) AllReadyH.nil
                  go_simp
                  refine hK.out _ _ hS (fun hS => ?_)
                  clear hK
                  refine wpAnyH_done (by kernel_rfl) ?_ _
                  go_wp2_with fail
                  go_meet
                  exact ⟨rfl, _, lv1, v1, rfl, stepq_b HPV2.out HAW2.out od1 S1 ap1 ow1⟩
                · go_simp
                  refine hK.out _ _ (ofb_alloc hS _) (fun hS => ?_)
                  clear hK
                  refine wpAnyH_ready (rs := [6]) (by kernel_rfl) (by simp) ?_
                  refine AllReadyH.cons rfl (fun K hK => ?_) AllReadyH.nil
                  go_simp
                  refine Calls.mono (HST2.out _ (((Below.refl _ _).drew).alloc (Nat.le_refl _) _)) ?_
                  rintro e6 w6 ⟨lv1, v1, rfl, od1, S1, ap1, ow1⟩
                  refine hK.out _ _ (ofb_first (((Below.refl _ _).drew).alloc (Nat.le_refl _) _) S1.of) (fun hS => ?_)
                  clear hK
                  refine wpAnyH_take (i := 7) (v := (.tuple #[.agg #[lv1, .int .i64 B1.nx], .bool true])) rfl (by kernel_rfl) (by kernel_rfl) (by kernel_rfl) (fun _ _ _ h => h) (Or.inl ⟨by rfl, fun wx hS => by go_simp⟩) hS ?_
                  refine wpAnyH_take (i := 8) (v := (.agg #[lv1, .int .i64 B1.nx])) rfl (by kernel_rfl) (by kernel_rfl) (by kernel_rfl) (fun _ _ _ h => h) (Or.inl ⟨by rfl, fun wx hS => by go_simp⟩) hS ?_
                  refine wpAnyH_take (i := 9) (v := (.bool true)) rfl (by kernel_rfl) (by kernel_rfl) (by kernel_rfl) (fun _ _ _ h => h) (Or.inl ⟨by rfl, fun wx hS => by go_simp⟩) hS ?_
                  have XQ : Blk w6 wb.heap.size #[.slice none 0 0, .int .i64 0] 34 := Blk.ofb (blk_new wb.drew wb.heap.size _ _ rfl) S1.of (by have := HPV2.out.1; omega) (fun e => by have := HPV2.out.2 _ e; omega)
                  refine wpAnyH_ready (rs := [11]) (by kernel_rfl) (by simp) ?_
                  refine readyH_rowC 11 rfl (ty := 34) (x := .tmp 15) (y := .tmp 86) rfl rfl rfl _ #[lv1, .int .i64 B1.nx] (by kernel_rfl) (by kernel_rfl) 34 #[.slice none 0 0, .int .i64 0] XQ (infoBk2 _ _) rfl (oneBkO od1 _) (ofb_rowNew hS (by omega) _) (fun hS => ?_)
                  refine wpAnyH_ready (rs := [12]) (by kernel_rfl) (by simp) ?_
                  refine AllReadyH.cons rfl (fun K hK => ?_) AllReadyH.nil
                  go_simp
                  refine hK.out _ _ hS (fun hS => ?_)
                  clear hK
                  refine wpAnyH_done (by kernel_rfl) ?_ _
                  go_wp2_with fail
                  go_meet
                  exact ⟨rfl, _, lv1, v1, rfl, stepq_a HPV2.out HAW2.out od1 S1 ap1 ow1⟩
              case rest =>
                obtain ⟨rfl, q2, lv2, v1n', rfl, Q2⟩ := hcut
                rename World => wc_
                have LN := Lp.next HOL.out (Nat.le_refl _) hpw hTw HQ1.out Q2
                obtain ⟨R1, R2, od3, LX⟩ := LN
                obtain ⟨la1, lc1, rfl, -⟩ := id od3
                have d0 : wc_.cell? ⟨q, 0, none⟩ = some (.slice la1 B1.os.length lc1) := R2.cell rfl
                have d1 : wc_.cell? ⟨q, 1, none⟩ = some (.int .i64 B1.nx) := R2.cell rfl
                obtain ⟨W9, hW9, X9, _⟩ := setRow_named R1 #[.slice la1 B1.os.length lc1, .int .i64 B1.nx]
                have L9 := LX W9 hW9
                have HL9 : Hid _ := L9
                have HBY2 : Hid (∀ (wx : World) (p2 : Nat) (v2 : Value), Bk wx w.heap.size p2 v2 B1 → Calls Try.prog 8 #[.pointer (some ⟨p2, 0, none⟩)] wx fun e w' => e = .returned (.string (boB B1)) ∧ Below wx.heap.size wx w') := fun wx p2 v2 h => bytes_calls wx h
                have hbb : ((boB B1).toList == (boB B1).toList) = true := by simp
                have hbn : ((boB B1).toList != (boB B1).toList) = false := by simp
                obtain ⟨Ys, hYs⟩ : ∃ Ys, boB B1 = Ys := ⟨_, rfl⟩
                rw [hYs] at HBY2 hbb hbn
                have R1' : Blk wc_ T _ 34 := R1
                clear hYs LX L9 Q2 HST2 HT0 HT1 HE0 HE1 HE2 HE3 HE4 HE5 HE6 HPV2 HAW2 HQ1 HOL HL R2 od3
                go_wp2_with ((with_reducible refine st_row (ty := 34) R1 (infoBk2 _ _) (sameBk2 _ _ _ _) (oneBk2 _ _ _ _) hW9 ?_ ?_ ?_); kernel_rfl; kernel_rfl)
                refine Calls.mono (HBY2.out _ _ _ (Lp.kb HL9.out)) ?_
                rintro e wd ⟨rfl, bd1⟩
                have kc1 := Bk.below (Lp.kc HL9.out) bd1
                have HKC : Hid _ := kc1
                clear kc1
                go_wp2_with fail
                refine Calls.mono (HBY2.out _ _ _ HKC.out) ?_
                rintro e we ⟨rfl, be1⟩
                have bze := Below.trans bd1 (be1.mono bd1.size)
                have HLE : Hid _ := Lp.below HL9.out bze
                clear bze be1 bd1 HKC
                go_wp2_with fail
                exact ⟨⟨k + 1, B1, _, _, _, by omega, by omega, by norm_cast, HLE.out⟩, by simp [intOf]; omega⟩
          · have hd2 : decide ((k : Int) < 20) = false := by simp only [decide_eq_false_iff_not]; omega
            have hB9 : Below w.heap.size w wr := HL.out.lo
            go_wp2_with fail
            refine (HA.out _).mono ?_
            rintro e w8 ⟨rfl, b8⟩
            go_wp2
            go_ret
            exact ⟨rfl, hB9.trans (b8.mono hB9.size)⟩
        · have hd : decide ((k : Int) < (m.length : Int)) = false := by simp only [decide_eq_false_iff_not]; omega
          have hkl : ¬ (k : Int) < (m.length : Int) := by omega
          have hB9 : Below w.heap.size w wr := HL.out.lo
          go_wp2_with fail
          refine (HA.out _).mono ?_
          rintro e w8 ⟨rfl, b8⟩
          go_wp2
          go_ret
          exact ⟨rfl, hB9.trans (b8.mono hB9.size)⟩
end Go.Proofs.Ytlhfdgeknpmdfaa

namespace Go.Proofs.Ytlhfdgeknpmdfaa
open Go.ChangeShapes Go.WideShapes Go.ChangeAt Go.RowKit
open Go.ChangeMaps (open_string shut_string)
set_option linter.unusedVariables false

set_option maxRecDepth 100000 in
theorem callBytes_lifted (os : Os) (started : os.Started) (H : Type) (enc : TypeId × Value → H) :
    ReturnsInHanded {} Try.checked os 3 .any (Rows.callBytesSpec.pre6 enc Try.prog Try.f3 Rows.callBytesRow.domain false) (Rows.callBytesSpec.post enc Try.prog Try.f3 false true false false) := by
  refine returnsInHanded_of_change_sized (C := Try.checked) own_knob started (by kernel_rfl) Try.func3
    (ChangeSpec.witness6 (enc := enc) (C := Try.checked) false ⟨#[], #[.slice none 0 0, .slice none 0 0], []⟩ 8 (by kernel_rfl) (by kernel_rfl) (by kernel_rfl) (by kernel_rfl)) ?_
  intro W base args ds gs before hval0 hW hcnd hsz0 _
  have hval : ∀ (j : Nat) t v, Try.f3.params[j]? = some t → args[j]? = some v → Value.okWide Try.prog W .any base t v := hval0
  have hW' := hW
  obtain ⟨p, q, hA0, hV, rfl, hfz, hnd⟩ := hW
  have hA : DataW.TrodAll enc Try.prog W 0 (fun _ => true) true Try.f3.params.toList args.toList ds p := hA0
  rw [Try.params3] at hA hval
  obtain ⟨v0, vs0, d0, ds0, p0, q0, hargs, rfl, rfl, h0, r0⟩ := trodAll_cons hA
  obtain ⟨v1, vs1, d1, ds1, p1, q1, rfl, rfl, rfl, h1, r1⟩ := trodAll_cons r0
  obtain ⟨rfl, rfl, rfl⟩ := trodAll_nil r1
  obtain rfl : args = #[v0, v1] := by cases args; simp_all
  obtain ⟨rfl, rfl⟩ := trodVars_none hV
  clear hA0
  try simp only [List.append_nil] at hW'
  try simp only [List.nil_append] at hW'
  have hsz1 : (DataW.weightsEach Try.prog [22, 22] [d0, d1]).all (· ≤ reachBytes) = true := hsz0
  have hszb0 : (DataW.weights Try.prog 22 d0).all (· ≤ reachBytes) = true := List.all_eq_true.2 fun m hm => List.all_eq_true.1 hsz1 m (DataW.weights_mem_each (j := 0) (t := 22) (d := d0) rfl rfl m hm)
  have hlt0 : ∀ x ∈ p0, x.block < W.heap.size := fun x hx => by simpa using hW'.lt x (by simp [hx])
  have hcell0 : v0.cells = #[v0] := by
    obtain ⟨p', n', c', rfl⟩ := okWide_slice Try.underlying22 (hval 0 22 v0 rfl rfl)
    rfl
  obtain ⟨l0, hl0, zl0⟩ := open_acs hcell0 h0 hszb0 hlt0
  have hszb1 : (DataW.weights Try.prog 22 d1).all (· ≤ reachBytes) = true := List.all_eq_true.2 fun m hm => List.all_eq_true.1 hsz1 m (DataW.weights_mem_each (j := 1) (t := 22) (d := d1) rfl rfl m hm)
  have hlt1 : ∀ x ∈ p1, x.block < W.heap.size := fun x hx => by simpa using hW'.lt x (by simp [hx])
  have hcell1 : v1.cells = #[v1] := by
    obtain ⟨p', n', c', rfl⟩ := okWide_slice Try.underlying22 (hval 1 22 v1 rfl rfl)
    rfl
  obtain ⟨l1, hl1, zl1⟩ := open_acs hcell1 h1 hszb1 hlt1
  refine (bytes2_calls v0 v1 l0 l1 W hl0 zl0 hl1 zl1).mono fun e W' ⟨he, hg⟩ => ?_
  subst he
  have harg := trodAll_cons_mk (Below.trod prog_laid (by kernel_rfl) (of_decide_eq_true (by kernel_rfl)) h0 hg hlt0) (trodAll_cons_mk (Below.trod prog_laid (by kernel_rfl) (of_decide_eq_true (by kernel_rfl)) h1 hg hlt1) (trodAll_mk0 (enc := enc) (P := Try.prog) (w := W') (base := 0) (spare := fun b => decide (b < W.heap.size)) (held := true)))
  try simp only [List.append_nil] at harg
  try simp only [List.nil_append] at harg
  exact ⟨_, rfl, _, _, _, [], p0 ++ p1, [], hW', trodAll_cons_mk (shut_bool Try.underlying4 _) trodAll_mk0,
    harg, rfl,
    hg.frame _, fun h => by cases h⟩

theorem callBytes_holds : Rows.CallBytesSaid :=
  OpenClaim.holds_of_wide 3 Try.f3 rfl rfl rfl rfl rfl rfl rfl ⟨rfl, rfl, rfl, rfl, rfl⟩ rfl rfl rfl rfl rfl (by kernel_rfl) Try.func3 (by kernel_rfl)
    (of_decide_eq_true (by kernel_rfl)) (by unfold Func.isWrapper; first | (rw [if_pos (by decide +kernel)]; kernel_rfl) | (rw [if_neg (by decide +kernel)]; exact ⟨rfl, rfl⟩))
    (fun os started H enc _ => callBytes_lifted os started H enc)
#print axioms callBytes_holds
end Go.Proofs.Ytlhfdgeknpmdfaa
