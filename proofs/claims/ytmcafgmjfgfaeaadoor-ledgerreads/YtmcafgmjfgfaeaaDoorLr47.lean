/- The document's read of an account, from any text. -/
import Derived.Test.YtmcafgmjfgfaeaaDoorLr29
import Derived.Test.YtmcafgmjfgfaeaaDoorLr34
import Derived.Test.YtmcafgmjfgfaeaaDoorLr44
import Derived.BigQuiet
import Derived.Deep.DeepCutAuto
import Derived.Deep.CutBlock
namespace Go.Proofs.YtmcafgmjfgfaeaaDoor
open Go.RowKit
set_option linter.unusedSimpArgs false
set_option linter.unusedVariables false

/-- The document's account of the program's. -/
def docK (k : Kt) : Kt := ⟨fun f => if f ≤ 4 then k.n (apf f) - k.n (hpf f) else if f < 10 then k.n (hpf (f - 5)) else k.n 10, k.reply⟩
/-- The same with its first parts alone. -/
def docTo (k : Kt) (p : Nat) : Kt := ⟨fun f => if f < p then k.n (apf f) - k.n (hpf f) else if 5 ≤ f ∧ f < 5 + p then k.n (hpf (f - 5)) else if f = 10 then k.n 10 else 0, k.reply⟩
theorem kt_ext {a b : Kt} (h : ∀ f, f < 11 → a.n f = b.n f) (hr : a.reply = b.reply) : a.cells = b.cells := by
  unfold Kt.cells
  rw [h 0 (by omega), h 1 (by omega), h 2 (by omega), h 3 (by omega), h 4 (by omega), h 5 (by omega), h 6 (by omega), h 7 (by omega), h 8 (by omega), h 9 (by omega), h 10 (by omega), hr]
theorem docTo_step (k : Kt) {p : Nat} (hp : p ≤ 4) : (((docTo k p).put p (k.n (apf p) - k.n (hpf p))).put (5 + p) (k.n (hpf p))).cells = (docTo k (p + 1)).cells := by
  refine kt_ext (fun f hf => ?_) rfl
  show (if f = 5 + p then k.n (hpf p) else if f = p then k.n (apf p) - k.n (hpf p) else if f < p then k.n (apf f) - k.n (hpf f) else if 5 ≤ f ∧ f < 5 + p then k.n (hpf (f - 5)) else if f = 10 then k.n 10 else 0) = if f < p + 1 then k.n (apf f) - k.n (hpf f) else if 5 ≤ f ∧ f < 5 + (p + 1) then k.n (hpf (f - 5)) else if f = 10 then k.n 10 else 0
  by_cases e1 : f = 5 + p
  · rw [if_pos e1, if_neg (show ¬ f < p + 1 by omega), if_pos (show 5 ≤ f ∧ f < 5 + (p + 1) by omega), e1, Nat.add_sub_cancel_left]
  · rw [if_neg e1]
    by_cases e2 : f = p
    · rw [if_pos e2, if_pos (show f < p + 1 by omega), e2]
    · rw [if_neg e2]
      by_cases e3 : f < p
      · rw [if_pos e3, if_pos (show f < p + 1 by omega)]
      · rw [if_neg e3, if_neg (show ¬ f < p + 1 by omega)]
        by_cases e4 : 5 ≤ f ∧ f < 5 + p
        · rw [if_pos e4, if_pos (show 5 ≤ f ∧ f < 5 + (p + 1) by omega)]
        · rw [if_neg e4, if_neg (show ¬ (5 ≤ f ∧ f < 5 + (p + 1)) by omega)]
theorem docTo_all {g : Nat} {k : Kt} (hg : g ≤ 4) (h : OkK g k) : (docTo k (g + 1)).cells = (docK k).cells := by
  refine kt_ext (fun f hf => ?_) rfl
  show (if f < g + 1 then k.n (apf f) - k.n (hpf f) else if 5 ≤ f ∧ f < 5 + (g + 1) then k.n (hpf (f - 5)) else if f = 10 then k.n 10 else 0) = if f ≤ 4 then k.n (apf f) - k.n (hpf f) else if f < 10 then k.n (hpf (f - 5)) else k.n 10
  have hz : ∀ q, g < q → q ≤ 4 → k.n (apf q) = 0 ∧ k.n (hpf q) = 0 := fun q h1 h2 => by
    have := h.none (q + 1) (by omega) (by omega)
    unfold apf hpf
    rw [if_neg (by omega), if_neg (by omega)]
    exact this
  by_cases e1 : f < g + 1
  · rw [if_pos e1, if_pos (by omega)]
  · rw [if_neg e1]
    by_cases e2 : f ≤ 4
    · rw [if_neg (by omega), if_neg (by omega), if_pos e2, (hz f (by omega) e2).1, (hz f (by omega) e2).2]; rfl
    · rw [if_neg e2]
      by_cases e3 : f < 10
      · rw [if_pos e3]
        by_cases e4 : f < 5 + (g + 1)
        · rw [if_pos ⟨by omega, e4⟩]
        · rw [if_neg (by omega), if_neg (by omega), (hz (f - 5) (by omega) (by omega)).2]
      · rw [if_neg (by omega), if_pos (by omega), if_neg e3]
theorem read_results {w' : World} {c0 c1 c2 c3 c4 c5 c6 c7 c8 c9 c10 c11 v : Value} {r : Nat} (X : Blk w' r #[c0, c1, c2, c3, c4, c5, c6, c7, c8, c9, c10, c11] 50) {t : Array Value} (h1 : t.getD 4 undef = .pointer (some ⟨r, 0, none⟩)) (h2 : t.getD 5 undef = v) :
    (results Tryd.f50 t).run Tryd.prog w' = .ok (.tuple #[.agg #[c0, c1, c2, c3, c4, c5, c6, c7, c8, c9, c10, c11], v]) w' := by
  have a0 := X.cell (o := 0) rfl
  have a1 := X.cell (o := 1) rfl
  have a2 := X.cell (o := 2) rfl
  have a3 := X.cell (o := 3) rfl
  have a4 := X.cell (o := 4) rfl
  have a5 := X.cell (o := 5) rfl
  have a6 := X.cell (o := 6) rfl
  have a7 := X.cell (o := 7) rfl
  have a8 := X.cell (o := 8) rfl
  have a9 := X.cell (o := 9) rfl
  have a10 := X.cell (o := 10) rfl
  have a11 := X.cell (o := 11) rfl
  simp only [Array.getD_eq_getD_getElem?] at h1 h2
  simp [results, Tryd.results50, go_sem, h1, h2, a0, a1, a2, a3, a4, a5, a6, a7, a8, a9, a10, a11]
theorem infoRaS : (Tryd.prog.info? 50).map (·.size) = some 12 := by kernel_rfl
theorem one12R (a b c d e f g h i j k : Int) (t : ByteArray) : (#[.int .i64 a, .int .i64 b, .int .i64 c, .int .i64 d, .int .i64 e, .int .i64 f, .int .i64 g, .int .i64 h, .int .i64 i, .int .i64 j, .int .i64 k, .string t] : Array Value).all (·.oneCell') = true := by simp [Value.oneCell']
/-- The numbers that a text begins with, in a row. -/
def intC (ms : List Int) : List Value := ms.map (Value.int .i64)
/-- Memory within a read: what is built, what is told. -/
structure Rdm (w wr : World) (b4 b6 : Nat) (k : Kt) (sl : Value) (ms : List Int) : Prop where
  x4 : Blk wr b4 Kt.zero.cells.toArray 50
  x6 : Blk wr b6 k.cells.toArray 50
  row : wr.ownsRow (b6 + 1) 3 1 sl ms.length (intC ms)
  bl : Below w.heap.size w wr
  h4 : w.heap.size ≤ b4
  h46 : b4 < b6
theorem idx_part {g : Nat} (hg : g ≤ 4) {p : Nat} (hp : p ≤ g) : idx g (apf p) = some (if p = 0 then 1 else 2 + p) ∧ idx g (hpf p) = some (if p = 0 then 2 else 2 + g + p) := by
  by_cases h0 : p = 0
  · subst h0
    exact ⟨rfl, rfl⟩
  · unfold apf hpf idx
    rw [if_neg h0, if_neg h0, if_neg h0, if_neg h0]
    constructor
    · rw [if_neg (by omega), if_neg (by omega), if_neg (by omega), if_pos (by omega), if_pos (by omega)]
      congr 1
      omega
    · rw [if_neg (by omega), if_neg (by omega), if_neg (by omega), if_neg (by omega), if_pos (by omega), if_pos (by omega)]
      congr 1
      omega
theorem kOf_part {g : Nat} (hg : g ≤ 4) {p : Nat} (hp : p ≤ g) (ms : List Int) (t : ByteArray) : (kOf g ms t).n (apf p) = ms.getD (if p = 0 then 1 else 2 + p) 0 ∧ (kOf g ms t).n (hpf p) = ms.getD (if p = 0 then 2 else 2 + g + p) 0 ∧ (kOf g ms t).n 10 = ms.getD 0 0 := by
  obtain ⟨a, b⟩ := idx_part hg hp
  refine ⟨?_, ?_, rfl⟩
  · show (match idx g (apf p) with | some i => ms.getD i 0 | none => 0) = _
    rw [a]
  · show (match idx g (hpf p) with | some i => ms.getD i 0 | none => 0) = _
    rw [b]
theorem infoIntR : (Tryd.prog.info? 3).map (fun i => (i.zero, i.size, i.bytes)) = some (some (.int .i64 0), 1, 8) := by kernel_rfl
theorem okV_off {s : ByteArray} {g : Nat} (h : (nxs s (3 + 2 * g)).1.2 = false) : okV g s = false := by
  unfold okV ktR
  cases rdText s (nxs s (3 + 2 * g)).1.1 with
  | error e => rfl
  | ok q => obtain ⟨t, nx⟩ := q; simp only; rw [h]; rfl
theorem okV_err {s : ByteArray} {g : Nat} {er : Int} (h : rdText s (nxs s (3 + 2 * g)).1.1 = .error er) : okV g s = false := by
  unfold okV ktR
  rw [h]; rfl
theorem okV_is {s : ByteArray} {g : Nat} {t : ByteArray} {nx : Nat} (hf : (nxs s (3 + 2 * g)).1.2 = true) (h : rdText s (nxs s (3 + 2 * g)).1.1 = .ok (t, nx)) : okV g s = ((nx == s.size) && soundB (kOf g (nxs s (3 + 2 * g)).2 t)) ∧ (ktR s g).1 = kOf g (nxs s (3 + 2 * g)).2 t := by
  unfold okV ktR
  rw [h]
  simp only
  rw [hf]
  exact ⟨by first | rfl | trivial | simp, by first | rfl | trivial⟩
theorem intC_at {ms : List Int} {i : Nat} (h : i < ms.length) : (intC ms)[i]? = some (.int .i64 (ms.getD i 0)) := by
  unfold intC
  simp [h]
/-- Memory within a read, once its numbers are read. -/
structure Rd2 (w wr : World) (k : Kt) (q : Nat) (ms : List Int) : Prop where
  x4 : Blk wr w.heap.size Kt.zero.cells.toArray 50
  x6 : Blk wr (w.heap.size + 1) k.cells.toArray 50
  cs : ∀ i, i < ms.length → wr.cell? ⟨q, i, none⟩ = some (.int .i64 (ms.getD i 0))
  bl : Below w.heap.size w wr
  hq : q ≠ w.heap.size + 1
theorem Rd2.set {w wr : World} {k : Kt} {q : Nat} {ms : List Int} (h : Rd2 w wr k q ms) {j : Nat} (hj : j < 11) (v : Int) : Rd2 w (wr.setCell ⟨w.heap.size + 1, j, none⟩ (.int .i64 v)) (k.put j v) q ms := by
  refine ⟨h.x4.setOther (p := ⟨w.heap.size + 1, j, none⟩) (by show w.heap.size ≠ w.heap.size + 1; omega) _, ?_, fun i hi => ?_, h.bl.setCell (p := ⟨w.heap.size + 1, j, none⟩) (by show w.heap.size ≤ w.heap.size + 1; omega) _, h.hq⟩
  · have := h.x6.set j (.int .i64 v)
    rw [List.setIfInBounds_toArray, Kt.set k j hj v] at this
    exact this
  · rw [World.cell?_setCell_far _ _ _ _ (by show w.heap.size + 1 ≠ q; exact fun e => h.hq e.symm)]
    exact h.cs i hi
theorem Rd2.setT {w wr : World} {k : Kt} {q : Nat} {ms : List Int} (h : Rd2 w wr k q ms) (t : ByteArray) : Rd2 w (wr.setCell ⟨w.heap.size + 1, 11, none⟩ (.string t)) ⟨k.n, t⟩ q ms := by
  refine ⟨h.x4.setOther (p := ⟨w.heap.size + 1, 11, none⟩) (by show w.heap.size ≠ w.heap.size + 1; omega) _, ?_, fun i hi => ?_, h.bl.setCell (p := ⟨w.heap.size + 1, 11, none⟩) (by show w.heap.size ≤ w.heap.size + 1; omega) _, h.hq⟩
  · have := h.x6.set 11 (.string t)
    rw [List.setIfInBounds_toArray] at this
    exact this
  · rw [World.cell?_setCell_far _ _ _ _ (by show w.heap.size + 1 ≠ q; exact fun e => h.hq e.symm)]
    exact h.cs i hi
theorem Rd2.congr {w wr : World} {k k' : Kt} {q : Nat} {ms : List Int} (h : Rd2 w wr k q ms) (e : k.cells = k'.cells) : Rd2 w wr k' q ms := ⟨h.x4, by rw [← e]; exact h.x6, h.cs, h.bl, h.hq⟩
theorem Rd2.drewN {w wr : World} {k : Kt} {q : Nat} {ms : List Int} (h : Rd2 w wr k q ms) (n : Nat) : Rd2 w (wr.drewN n) k q ms := ⟨h.x4, h.x6, h.cs, h.bl.trans ⟨rfl, rfl, rfl, Nat.le_refl _, fun _ _ => rfl⟩, h.hq⟩
theorem sound_yes {g : Nat} {k : Kt} (hg : g ≤ 4) (h : OkK g k) (hp : ∀ p, p ≤ g → k.n (hpf p) ≤ k.n (apf p)) (h1 : k.reply.size ≤ 256) (h2 : k.n 10 = 0 → k.reply.toList = []) : soundB k = true := by
  have hq : ∀ p, p ≤ 4 → k.n (hpf p) ≤ k.n (apf p) := fun p h4 => by
    by_cases e : p ≤ g
    · exact hp p e
    · have := h.none (p + 1) (by omega) (by omega)
      unfold apf hpf
      rw [if_neg (by omega), if_neg (by omega), this.1, this.2]
      exact Int.le_refl _
  have t := (h.num 10 (by omega)).1
  unfold soundB
  refine decide_eq_true ⟨⟨hq 1 (by omega), hq 2 (by omega), hq 3 (by omega), hq 4 (by omega)⟩, hq 0 (by omega), h1, ?_⟩
  by_cases e : k.n 10 = 0
  · exact Or.inr (h2 e)
  · exact Or.inl (by omega)
theorem sound_part {k : Kt} (h : soundB k = true) {p : Nat} (hp : p ≤ 4) : k.n (hpf p) ≤ k.n (apf p) := by
  obtain ⟨⟨h2, h3, h4, h5⟩, h0, _⟩ := sound_is h
  rcases (show p = 0 ∨ p = 1 ∨ p = 2 ∨ p = 3 ∨ p = 4 by omega) with rfl | rfl | rfl | rfl | rfl
  · exact h0
  · exact h2
  · exact h3
  · exact h4
  · exact h5
set_option maxHeartbeats 8000000 in
set_option maxRecDepth 100000 in
theorem read_ref (s : ByteArray) (g : Nat) (hg : g ≤ 4) (w : World) (hs : s.size ≤ maxLen) :
    Calls Tryd.prog 50 #[.int .i64 g, .string s] w fun e w' => Below w.heap.size w w' ∧ ((okV g s = true ∧ e = .returned (.tuple #[.agg (docK (ktR s g).1).cells.toArray, .bool true])) ∨ (okV g s = false ∧ ∃ k : Kt, e = .returned (.tuple #[.agg k.cells.toArray, .bool false]))) := by
  obtain ⟨i0, hi, hz0, hz1, hz2⟩ := info_parts infoIntR
  obtain ⟨W0, hW0, HM0⟩ : ∃ W0, ((w.alloc (.cells #[.int .i64 0, .int .i64 0, .int .i64 0, .int .i64 0, .int .i64 0, .int .i64 0, .int .i64 0, .int .i64 0, .int .i64 0, .int .i64 0, .int .i64 0, .string ⟨#[]⟩] 50)).alloc (.cells #[.int .i64 0, .int .i64 0, .int .i64 0, .int .i64 0, .int .i64 0, .int .i64 0, .int .i64 0, .int .i64 0, .int .i64 0, .int .i64 0, .int .i64 0, .string ⟨#[]⟩] 50)) = W0 ∧ Hid (Rdm w W0 w.heap.size (w.heap.size + 1) Kt.zero (.slice none 0 0) []) :=
    ⟨_, rfl, (blk_new _ _ _ _ rfl).alloc _, blk_new _ _ _ _ (by simp), World.ownsRow_nil _ _ _ _, by go_grown, Nat.le_refl _, by omega⟩
  have hw1 : IntKind.i64.wrap (2 * (g : Int)) = 2 * g := by rw [IntKind.wrap_i64]; omega
  have hw2 : IntKind.i64.wrap (3 + 2 * (g : Int)) = 3 + 2 * g := by rw [IntKind.wrap_i64]; omega
  have HIN : Hid _ := fun (a : Nat) (ha : a ≤ s.size) wx => int_ref s a wx hs ha
  have HTX : Hid _ := fun (a : Nat) (ha : a ≤ s.size) wx => text_ref s a wx hs ha
  obtain ⟨kk, hkk⟩ : ∃ kk, Kt.zero = kk := ⟨_, rfl⟩
  rw [hkk] at HM0
  have HKZ : Hid _ := hkk
  go_enter Tryd.func50, Tryd.ntmps50
  go_wp2_with fail
  go_loopw [7, 8, 9] (fun sl at_ i wr => ∃ j : Nat, j ≤ 3 + 2 * g ∧ i = .int .i64 j ∧ at_ = .int .i64 (nxs s j).1.1 ∧ Hid ((nxs s j).1.2 = true) ∧ Hid (Rdm w wr w.heap.size (w.heap.size + 1) kk sl (nxs s j).2)) (fun _ _ i _ => 11 - (intOf i).toNat)
  case atStart => exact ⟨0, by omega, rfl, rfl, rfl, HM0⟩
  case round =>
    clear HM0
    obtain ⟨j, hj, rfl, rfl, HF, HM⟩ := hrel
    by_cases hlt : j < 3 + 2 * g
    · have hd : decide ((j : Int) < 3 + 2 * g) = true := by simp only [decide_eq_true_eq]; omega
      have HI : Hid _ := fun wx => HIN.out (nxs s j).1.1 (nxs_at s j) wx
      have HL := nxs_len s j
      have hst := nxs_step s j
      have hsp := fun h => nxs_stop s j h HF.out
      have hoff := fun (h : (nxs s (j + 1)).1.2 = false) => okV_off (g := g) (nxs_off s (show j + 1 ≤ 3 + 2 * g by omega) h)
      cases hr : rdInt s (nxs s j).1.1 with
      | error er =>
        have hbad : okV g s = false := by
          cases hf : (nxs s (j + 1)).1.2
          · exact hoff hf
          · obtain ⟨_, m, nx, h1, _⟩ := hst hf
            rw [hr] at h1
            cases h1
        have HBAD : Hid _ := hbad
        have hne : ¬ er = 0 := rdInt_err hr
        have hb : (er != 0) = true := by simpa using hne
        rw [hr] at HI
        clear hbad hst hsp hoff hr HL
        generalize (nxs s j).1.1 = a at *
        have c0 : wr.cell? ⟨w.heap.size + 1, 0, none⟩ = some (.int .i64 (kk.n 0)) := HM.out.x6.cell (by rw [← hkk]; rfl)
        have c1 : wr.cell? ⟨w.heap.size + 1, 1, none⟩ = some (.int .i64 (kk.n 1)) := HM.out.x6.cell (by rw [← hkk]; rfl)
        have c2 : wr.cell? ⟨w.heap.size + 1, 2, none⟩ = some (.int .i64 (kk.n 2)) := HM.out.x6.cell (by rw [← hkk]; rfl)
        have c3 : wr.cell? ⟨w.heap.size + 1, 3, none⟩ = some (.int .i64 (kk.n 3)) := HM.out.x6.cell (by rw [← hkk]; rfl)
        have c4 : wr.cell? ⟨w.heap.size + 1, 4, none⟩ = some (.int .i64 (kk.n 4)) := HM.out.x6.cell (by rw [← hkk]; rfl)
        have c5 : wr.cell? ⟨w.heap.size + 1, 5, none⟩ = some (.int .i64 (kk.n 5)) := HM.out.x6.cell (by rw [← hkk]; rfl)
        have c6 : wr.cell? ⟨w.heap.size + 1, 6, none⟩ = some (.int .i64 (kk.n 6)) := HM.out.x6.cell (by rw [← hkk]; rfl)
        have c7 : wr.cell? ⟨w.heap.size + 1, 7, none⟩ = some (.int .i64 (kk.n 7)) := HM.out.x6.cell (by rw [← hkk]; rfl)
        have c8 : wr.cell? ⟨w.heap.size + 1, 8, none⟩ = some (.int .i64 (kk.n 8)) := HM.out.x6.cell (by rw [← hkk]; rfl)
        have c9 : wr.cell? ⟨w.heap.size + 1, 9, none⟩ = some (.int .i64 (kk.n 9)) := HM.out.x6.cell (by rw [← hkk]; rfl)
        have c10 : wr.cell? ⟨w.heap.size + 1, 10, none⟩ = some (.int .i64 (kk.n 10)) := HM.out.x6.cell (by rw [← hkk]; rfl)
        have c11 : wr.cell? ⟨w.heap.size + 1, 11, none⟩ = some (.string kk.reply) := HM.out.x6.cell (by rw [← hkk]; rfl)
        have X4 := HM.out.x4
        obtain ⟨W9, hW9, X9, B9⟩ : ∃ W9, wr.setRow w.heap.size #[.int .i64 (kk.n 0), .int .i64 (kk.n 1), .int .i64 (kk.n 2), .int .i64 (kk.n 3), .int .i64 (kk.n 4), .int .i64 (kk.n 5), .int .i64 (kk.n 6), .int .i64 (kk.n 7), .int .i64 (kk.n 8), .int .i64 (kk.n 9), .int .i64 (kk.n 10), .string kk.reply] = W9 ∧ Blk W9 w.heap.size #[.int .i64 (kk.n 0), .int .i64 (kk.n 1), .int .i64 (kk.n 2), .int .i64 (kk.n 3), .int .i64 (kk.n 4), .int .i64 (kk.n 5), .int .i64 (kk.n 6), .int .i64 (kk.n 7), .int .i64 (kk.n 8), .int .i64 (kk.n 9), .int .i64 (kk.n 10), .string kk.reply] 50 ∧ Below w.heap.size w W9 := ⟨_, rfl, Blk.setRow X4 _, below_setRow HM.out.bl _ _ (Nat.le_refl _)⟩
        have i1 : (Tryd.prog.info? 50).map (·.size) = some (#[.int .i64 (kk.n 0), .int .i64 (kk.n 1), .int .i64 (kk.n 2), .int .i64 (kk.n 3), .int .i64 (kk.n 4), .int .i64 (kk.n 5), .int .i64 (kk.n 6), .int .i64 (kk.n 7), .int .i64 (kk.n 8), .int .i64 (kk.n 9), .int .i64 (kk.n 10), .string kk.reply] : Array Value).size := infoRaS
        have i2 : (#[.int .i64 (kk.n 0), .int .i64 (kk.n 1), .int .i64 (kk.n 2), .int .i64 (kk.n 3), .int .i64 (kk.n 4), .int .i64 (kk.n 5), .int .i64 (kk.n 6), .int .i64 (kk.n 7), .int .i64 (kk.n 8), .int .i64 (kk.n 9), .int .i64 (kk.n 10), .string kk.reply] : Array Value).all (·.oneCell') = true := one12R _ _ _ _ _ _ _ _ _ _ _ _
        have i3 : (Kt.zero.cells.toArray : Array Value).size = (#[.int .i64 (kk.n 0), .int .i64 (kk.n 1), .int .i64 (kk.n 2), .int .i64 (kk.n 3), .int .i64 (kk.n 4), .int .i64 (kk.n 5), .int .i64 (kk.n 6), .int .i64 (kk.n 7), .int .i64 (kk.n 8), .int .i64 (kk.n 9), .int .i64 (kk.n 10), .string kk.reply] : Array Value).size := rfl
        have HX9 : Hid _ := X9
        have HB9 : Hid _ := B9
        clear X9 B9
        go_wp2_with fail
        refine Calls.mono (HI.out _) ?_
        rintro e w2 ⟨rfl, rfl⟩
        simp only [gotG]
        go_wp2_with ((with_reducible refine st_row (ty := 50) (cs' := #[.int .i64 (kk.n 0), .int .i64 (kk.n 1), .int .i64 (kk.n 2), .int .i64 (kk.n 3), .int .i64 (kk.n 4), .int .i64 (kk.n 5), .int .i64 (kk.n 6), .int .i64 (kk.n 7), .int .i64 (kk.n 8), .int .i64 (kk.n 9), .int .i64 (kk.n 10), .string kk.reply]) X4 i1 i3 i2 hW9 ?_ ?_ ?_); rfl; rfl)
        try simp only [Exit.inBlock, Exit.then]
        refine bodyPost_ret (v := .tuple #[.agg #[.int .i64 (kk.n 0), .int .i64 (kk.n 1), .int .i64 (kk.n 2), .int .i64 (kk.n 3), .int .i64 (kk.n 4), .int .i64 (kk.n 5), .int .i64 (kk.n 6), .int .i64 (kk.n 7), .int .i64 (kk.n 8), .int .i64 (kk.n 9), .int .i64 (kk.n 10), .string kk.reply], .bool false]) (read_results HX9.out rfl rfl) rfl ?_
        exact ⟨HB9.out, Or.inr ⟨HBAD.out, kk, rfl⟩⟩
      | ok q =>
        obtain ⟨m, nx⟩ := q
        rw [hr] at HI
        by_cases hm : (m : Int) ≤ 1099511627776
        · have hnx : nxs s (j + 1) = ((nx, true), (nxs s j).2 ++ [(m : Int)]) := by
            cases hf : (nxs s (j + 1)).1.2
            · rcases hsp hf with ⟨er, h1⟩ | ⟨m', nx', h1, h2⟩
              · rw [hr] at h1; cases h1
              · rw [hr] at h1
                simp only [Except.ok.injEq, Prod.mk.injEq] at h1
                obtain ⟨rfl, rfl⟩ := h1
                omega
            · obtain ⟨_, m', nx', h1, _, h3⟩ := hst hf
              rw [hr] at h1
              simp only [Except.ok.injEq, Prod.mk.injEq] at h1
              obtain ⟨rfl, rfl⟩ := h1
              exact h3
          have HNX : Hid _ := hnx
          have hd2 : decide ((1099511627776 : Int) < m) = false := by simp only [decide_eq_false_iff_not]; omega
          have hd3 : decide ((m : Int) > 1099511627776) = false := hd2
          have hwz := HM.out.bl.size
          have HR : Hid _ := HM.out.row
          have hln : (nxs s j).2.length ≤ 20 := by omega
          clear hst hsp hoff hr hnx
          generalize (nxs s j).1.1 = a at *
          generalize (nxs s j).2 = ms at *
          have hwr : w.heap.size + 2 ≤ wr.heap.size := by
            have := HM.out.x6.lt
            omega
          go_wp2_with fail
          refine Calls.mono (HI.out _) ?_
          rintro e w2 ⟨rfl, rfl⟩
          simp only [gotG]
          go_wp2_with (at_builtin; refine wpList_append_own _ rfl (.tmp 39) (.tmp 41) 95 rfl (w.heap.size + 2) 3 i0 (.int .i64 0) 1 8 Tryd.underlying95 hi hz0 hz1 hz2 rfl (by decide) _ ms.length (intC ms) rfl (World.ownsRow.alloc HR.out _) ⟨w2.heap.size, 0, none⟩ 1 1 [.int .i64 m] rfl rfl ?c1 ?c2 ?c3 ?c4 ?c5 ?_)
          case c1 => exact cell_one_new _ _ _
          case c2 => intro u hu; simp at hu; subst hu; rfl
          case c3 => unfold maxLen; omega
          case c4 => omega
          case c5 => simp; omega
          intro v' w3 hown' hgrow _
          have hz3 := hgrow.size
          have kb : ∀ j, j < w2.heap.size → j < w.heap.size + 2 → w3.heap[j]? = w2.heap[j]? := fun j hj hj2 => by
            rw [hgrow.block j (by simp; omega) (fun e => by have := (World.ownsRow.lt HR.out j e.symm).1; omega)]
            exact Lib.alloc_old w2 _ j hj
          have HM3 : Hid (Rdm w w3 w.heap.size (w.heap.size + 1) kk v' (ms ++ [(m : Int)])) := by
            refine ⟨(kb _ (by omega) (by omega)).trans HM.out.x4, (kb _ (by omega) (by omega)).trans HM.out.x6, ?_, (HM.out.bl.alloc (by omega) _).grown hgrow (by simp; omega) (fun j hj => by have := (World.ownsRow.lt HR.out j hj).1; omega), Nat.le_refl _, by omega⟩
            rw [List.length_append, List.length_singleton]
            have e : intC (ms ++ [(m : Int)]) = intC ms ++ [.int .i64 m] := by unfold intC; simp
            rw [e]
            rw [HL]
            exact hown'
          clear hown' hgrow kb HR HM
          go_wp2
          refine ⟨⟨j + 1, by omega, by norm_cast, by rw [HNX.out], by rw [HNX.out]; rfl, by rw [HNX.out]; exact HM3⟩, by simp [intOf]; omega⟩
        · have hbad : okV g s = false := by
            cases hf : (nxs s (j + 1)).1.2
            · exact hoff hf
            · obtain ⟨_, m', nx', h1, h2, _⟩ := hst hf
              rw [hr] at h1
              simp only [Except.ok.injEq, Prod.mk.injEq] at h1
              obtain ⟨rfl, rfl⟩ := h1
              omega
          have HBAD : Hid _ := hbad
          have hd2 : decide ((1099511627776 : Int) < m) = true := by simp only [decide_eq_true_eq]; omega
          have hd3 : decide ((m : Int) > 1099511627776) = true := hd2
          clear hbad hst hsp hoff hr HL
          generalize (nxs s j).1.1 = a at *
          have c0 : wr.cell? ⟨w.heap.size + 1, 0, none⟩ = some (.int .i64 (kk.n 0)) := HM.out.x6.cell (by rw [← hkk]; rfl)
          have c1 : wr.cell? ⟨w.heap.size + 1, 1, none⟩ = some (.int .i64 (kk.n 1)) := HM.out.x6.cell (by rw [← hkk]; rfl)
          have c2 : wr.cell? ⟨w.heap.size + 1, 2, none⟩ = some (.int .i64 (kk.n 2)) := HM.out.x6.cell (by rw [← hkk]; rfl)
          have c3 : wr.cell? ⟨w.heap.size + 1, 3, none⟩ = some (.int .i64 (kk.n 3)) := HM.out.x6.cell (by rw [← hkk]; rfl)
          have c4 : wr.cell? ⟨w.heap.size + 1, 4, none⟩ = some (.int .i64 (kk.n 4)) := HM.out.x6.cell (by rw [← hkk]; rfl)
          have c5 : wr.cell? ⟨w.heap.size + 1, 5, none⟩ = some (.int .i64 (kk.n 5)) := HM.out.x6.cell (by rw [← hkk]; rfl)
          have c6 : wr.cell? ⟨w.heap.size + 1, 6, none⟩ = some (.int .i64 (kk.n 6)) := HM.out.x6.cell (by rw [← hkk]; rfl)
          have c7 : wr.cell? ⟨w.heap.size + 1, 7, none⟩ = some (.int .i64 (kk.n 7)) := HM.out.x6.cell (by rw [← hkk]; rfl)
          have c8 : wr.cell? ⟨w.heap.size + 1, 8, none⟩ = some (.int .i64 (kk.n 8)) := HM.out.x6.cell (by rw [← hkk]; rfl)
          have c9 : wr.cell? ⟨w.heap.size + 1, 9, none⟩ = some (.int .i64 (kk.n 9)) := HM.out.x6.cell (by rw [← hkk]; rfl)
          have c10 : wr.cell? ⟨w.heap.size + 1, 10, none⟩ = some (.int .i64 (kk.n 10)) := HM.out.x6.cell (by rw [← hkk]; rfl)
          have c11 : wr.cell? ⟨w.heap.size + 1, 11, none⟩ = some (.string kk.reply) := HM.out.x6.cell (by rw [← hkk]; rfl)
          have X4 := HM.out.x4
          obtain ⟨W9, hW9, X9, B9⟩ : ∃ W9, wr.setRow w.heap.size #[.int .i64 (kk.n 0), .int .i64 (kk.n 1), .int .i64 (kk.n 2), .int .i64 (kk.n 3), .int .i64 (kk.n 4), .int .i64 (kk.n 5), .int .i64 (kk.n 6), .int .i64 (kk.n 7), .int .i64 (kk.n 8), .int .i64 (kk.n 9), .int .i64 (kk.n 10), .string kk.reply] = W9 ∧ Blk W9 w.heap.size #[.int .i64 (kk.n 0), .int .i64 (kk.n 1), .int .i64 (kk.n 2), .int .i64 (kk.n 3), .int .i64 (kk.n 4), .int .i64 (kk.n 5), .int .i64 (kk.n 6), .int .i64 (kk.n 7), .int .i64 (kk.n 8), .int .i64 (kk.n 9), .int .i64 (kk.n 10), .string kk.reply] 50 ∧ Below w.heap.size w W9 := ⟨_, rfl, Blk.setRow X4 _, below_setRow HM.out.bl _ _ (Nat.le_refl _)⟩
          have i1 : (Tryd.prog.info? 50).map (·.size) = some (#[.int .i64 (kk.n 0), .int .i64 (kk.n 1), .int .i64 (kk.n 2), .int .i64 (kk.n 3), .int .i64 (kk.n 4), .int .i64 (kk.n 5), .int .i64 (kk.n 6), .int .i64 (kk.n 7), .int .i64 (kk.n 8), .int .i64 (kk.n 9), .int .i64 (kk.n 10), .string kk.reply] : Array Value).size := infoRaS
          have i2 : (#[.int .i64 (kk.n 0), .int .i64 (kk.n 1), .int .i64 (kk.n 2), .int .i64 (kk.n 3), .int .i64 (kk.n 4), .int .i64 (kk.n 5), .int .i64 (kk.n 6), .int .i64 (kk.n 7), .int .i64 (kk.n 8), .int .i64 (kk.n 9), .int .i64 (kk.n 10), .string kk.reply] : Array Value).all (·.oneCell') = true := one12R _ _ _ _ _ _ _ _ _ _ _ _
          have i3 : (Kt.zero.cells.toArray : Array Value).size = (#[.int .i64 (kk.n 0), .int .i64 (kk.n 1), .int .i64 (kk.n 2), .int .i64 (kk.n 3), .int .i64 (kk.n 4), .int .i64 (kk.n 5), .int .i64 (kk.n 6), .int .i64 (kk.n 7), .int .i64 (kk.n 8), .int .i64 (kk.n 9), .int .i64 (kk.n 10), .string kk.reply] : Array Value).size := rfl
          have HX9 : Hid _ := X9
          have HB9 : Hid _ := B9
          clear X9 B9
          go_wp2_with fail
          refine Calls.mono (HI.out _) ?_
          rintro e w2 ⟨rfl, rfl⟩
          simp only [gotG]
          go_wp2_with ((with_reducible refine st_row (ty := 50) (cs' := #[.int .i64 (kk.n 0), .int .i64 (kk.n 1), .int .i64 (kk.n 2), .int .i64 (kk.n 3), .int .i64 (kk.n 4), .int .i64 (kk.n 5), .int .i64 (kk.n 6), .int .i64 (kk.n 7), .int .i64 (kk.n 8), .int .i64 (kk.n 9), .int .i64 (kk.n 10), .string kk.reply]) X4 i1 i3 i2 hW9 ?_ ?_ ?_); rfl; rfl)
          try simp only [Exit.inBlock, Exit.then]
          refine bodyPost_ret (v := .tuple #[.agg #[.int .i64 (kk.n 0), .int .i64 (kk.n 1), .int .i64 (kk.n 2), .int .i64 (kk.n 3), .int .i64 (kk.n 4), .int .i64 (kk.n 5), .int .i64 (kk.n 6), .int .i64 (kk.n 7), .int .i64 (kk.n 8), .int .i64 (kk.n 9), .int .i64 (kk.n 10), .string kk.reply], .bool false]) (read_results HX9.out rfl rfl) rfl ?_
          exact ⟨HB9.out, Or.inr ⟨HBAD.out, kk, rfl⟩⟩
    have hd : decide ((j : Int) < 3 + 2 * g) = false := by simp only [decide_eq_false_iff_not]; omega
    have ej : j = 3 + 2 * g := by omega
    obtain ⟨a, hA⟩ : ∃ a, (nxs s j).1.1 = a := ⟨_, rfl⟩
    rw [hA]
    rw [ej] at HF HM hA
    clear ej hlt
    have hln := nxs_len s (3 + 2 * g)
    have hrow := HM.out.row
    rw [hln] at hrow
    obtain ⟨q, cap, rfl⟩ : ∃ q cap, u7 = .slice (some ⟨q, 0, none⟩) (3 + 2 * g) cap := by
      rcases hrow.2 with ⟨h1, h2⟩ | ⟨q, cap, cur, h1, h2⟩
      · omega
      · exact ⟨q, cap, h1⟩
    have hqb := (World.ownsRow.lt hrow q rfl).1
    have HM2 : Hid (Rd2 w wr kk q (nxs s (3 + 2 * g)).2) := ⟨HM.out.x4, HM.out.x6, fun i hi => by
      rw [hln] at hi
      rw [hrow.cellAt i (by omega)]
      exact intC_at (by rw [hln]; exact hi), HM.out.bl, by omega⟩
    have HT : Hid _ := fun wx => HTX.out (nxs s (3 + 2 * g)).1.1 (nxs_at s _) wx
    have herr := fun er (h : rdText s (nxs s (3 + 2 * g)).1.1 = .error er) => okV_err (g := g) h
    have his := fun t nx (h : rdText s (nxs s (3 + 2 * g)).1.1 = .ok (t, nx)) => okV_is (g := g) HF.out h
    have hok := fun t => kOf_ok (g := g) (nxs_canon s _ HF.out).2 t
    have hpt := fun p (hp : p ≤ g) t => kOf_part hg hp (nxs s (3 + 2 * g)).2 t
    have HLN : Hid ((nxs s (3 + 2 * g)).2.length = 3 + 2 * g) := hln
    have HMO : Hid _ := HM
    clear HM hrow hln hqb hj
    have HM : Hid _ := HM2.out
    clear HM2 HMO HIN HTX
    generalize (nxs s (3 + 2 * g)).2 = ms at *
    rw [hA] at HT herr his
    cases hr : rdText s a with
    | error er =>
      have HBAD : Hid _ := herr er hr
      have hne : ¬ er = 0 := rdText_err0 hr
      have hb : (er != 0) = true := by simpa using hne
      rw [hr] at HT
      clear herr his hok hpt hr hA
      have c0 : wr.cell? ⟨w.heap.size + 1, 0, none⟩ = some (.int .i64 (kk.n 0)) := HM.out.x6.cell (by rw [← hkk]; rfl)
      have c1 : wr.cell? ⟨w.heap.size + 1, 1, none⟩ = some (.int .i64 (kk.n 1)) := HM.out.x6.cell (by rw [← hkk]; rfl)
      have c2 : wr.cell? ⟨w.heap.size + 1, 2, none⟩ = some (.int .i64 (kk.n 2)) := HM.out.x6.cell (by rw [← hkk]; rfl)
      have c3 : wr.cell? ⟨w.heap.size + 1, 3, none⟩ = some (.int .i64 (kk.n 3)) := HM.out.x6.cell (by rw [← hkk]; rfl)
      have c4 : wr.cell? ⟨w.heap.size + 1, 4, none⟩ = some (.int .i64 (kk.n 4)) := HM.out.x6.cell (by rw [← hkk]; rfl)
      have c5 : wr.cell? ⟨w.heap.size + 1, 5, none⟩ = some (.int .i64 (kk.n 5)) := HM.out.x6.cell (by rw [← hkk]; rfl)
      have c6 : wr.cell? ⟨w.heap.size + 1, 6, none⟩ = some (.int .i64 (kk.n 6)) := HM.out.x6.cell (by rw [← hkk]; rfl)
      have c7 : wr.cell? ⟨w.heap.size + 1, 7, none⟩ = some (.int .i64 (kk.n 7)) := HM.out.x6.cell (by rw [← hkk]; rfl)
      have c8 : wr.cell? ⟨w.heap.size + 1, 8, none⟩ = some (.int .i64 (kk.n 8)) := HM.out.x6.cell (by rw [← hkk]; rfl)
      have c9 : wr.cell? ⟨w.heap.size + 1, 9, none⟩ = some (.int .i64 (kk.n 9)) := HM.out.x6.cell (by rw [← hkk]; rfl)
      have c10 : wr.cell? ⟨w.heap.size + 1, 10, none⟩ = some (.int .i64 (kk.n 10)) := HM.out.x6.cell (by rw [← hkk]; rfl)
      have c11 : wr.cell? ⟨w.heap.size + 1, 11, none⟩ = some (.string kk.reply) := HM.out.x6.cell (by rw [← hkk]; rfl)
      have X4 := HM.out.x4
      obtain ⟨W9, hW9, X9, B9⟩ : ∃ W9, wr.setRow w.heap.size #[.int .i64 (kk.n 0), .int .i64 (kk.n 1), .int .i64 (kk.n 2), .int .i64 (kk.n 3), .int .i64 (kk.n 4), .int .i64 (kk.n 5), .int .i64 (kk.n 6), .int .i64 (kk.n 7), .int .i64 (kk.n 8), .int .i64 (kk.n 9), .int .i64 (kk.n 10), .string kk.reply] = W9 ∧ Blk W9 w.heap.size #[.int .i64 (kk.n 0), .int .i64 (kk.n 1), .int .i64 (kk.n 2), .int .i64 (kk.n 3), .int .i64 (kk.n 4), .int .i64 (kk.n 5), .int .i64 (kk.n 6), .int .i64 (kk.n 7), .int .i64 (kk.n 8), .int .i64 (kk.n 9), .int .i64 (kk.n 10), .string kk.reply] 50 ∧ Below w.heap.size w W9 := ⟨_, rfl, Blk.setRow X4 _, below_setRow HM.out.bl _ _ (Nat.le_refl _)⟩
      have i1 : (Tryd.prog.info? 50).map (·.size) = some (#[.int .i64 (kk.n 0), .int .i64 (kk.n 1), .int .i64 (kk.n 2), .int .i64 (kk.n 3), .int .i64 (kk.n 4), .int .i64 (kk.n 5), .int .i64 (kk.n 6), .int .i64 (kk.n 7), .int .i64 (kk.n 8), .int .i64 (kk.n 9), .int .i64 (kk.n 10), .string kk.reply] : Array Value).size := infoRaS
      have i2 : (#[.int .i64 (kk.n 0), .int .i64 (kk.n 1), .int .i64 (kk.n 2), .int .i64 (kk.n 3), .int .i64 (kk.n 4), .int .i64 (kk.n 5), .int .i64 (kk.n 6), .int .i64 (kk.n 7), .int .i64 (kk.n 8), .int .i64 (kk.n 9), .int .i64 (kk.n 10), .string kk.reply] : Array Value).all (·.oneCell') = true := one12R _ _ _ _ _ _ _ _ _ _ _ _
      have i3 : (Kt.zero.cells.toArray : Array Value).size = (#[.int .i64 (kk.n 0), .int .i64 (kk.n 1), .int .i64 (kk.n 2), .int .i64 (kk.n 3), .int .i64 (kk.n 4), .int .i64 (kk.n 5), .int .i64 (kk.n 6), .int .i64 (kk.n 7), .int .i64 (kk.n 8), .int .i64 (kk.n 9), .int .i64 (kk.n 10), .string kk.reply] : Array Value).size := rfl
      have HX9 : Hid _ := X9
      have HB9 : Hid _ := B9
      clear X9 B9
      go_wp2_with fail
      refine Calls.mono (HT.out _) ?_
      rintro e w2 ⟨rfl, rfl⟩
      simp only [gotT]
      go_wp2_with ((with_reducible refine st_row (ty := 50) (cs' := #[.int .i64 (kk.n 0), .int .i64 (kk.n 1), .int .i64 (kk.n 2), .int .i64 (kk.n 3), .int .i64 (kk.n 4), .int .i64 (kk.n 5), .int .i64 (kk.n 6), .int .i64 (kk.n 7), .int .i64 (kk.n 8), .int .i64 (kk.n 9), .int .i64 (kk.n 10), .string kk.reply]) X4 i1 i3 i2 hW9 ?_ ?_ ?_); rfl; rfl)
      try simp only [Exit.inBlock, Exit.then]
      refine bodyPost_ret (v := .tuple #[.agg #[.int .i64 (kk.n 0), .int .i64 (kk.n 1), .int .i64 (kk.n 2), .int .i64 (kk.n 3), .int .i64 (kk.n 4), .int .i64 (kk.n 5), .int .i64 (kk.n 6), .int .i64 (kk.n 7), .int .i64 (kk.n 8), .int .i64 (kk.n 9), .int .i64 (kk.n 10), .string kk.reply], .bool false]) (read_results HX9.out rfl rfl) rfl ?_
      exact ⟨HB9.out, Or.inr ⟨HBAD.out, kk, rfl⟩⟩
    | ok pr =>
      obtain ⟨t, nx⟩ := pr
      rw [hr] at HT
      obtain ⟨hv1, hv2⟩ := his t nx hr
      have HIS : Hid (okV g s = ((nx == s.size) && soundB (kOf g ms t)) ∧ (ktR s g).1 = kOf g ms t) := ⟨hv1, hv2⟩
      have HOKK : Hid (OkK g (kOf g ms t)) := hok t
      have HPT : Hid (∀ p, p ≤ g → _) := fun p (hp : p ≤ g) => hpt p hp t
      have hten : (kOf g ms t).n 10 = ms.getD 0 0 := rfl
      have hrp : (kOf g ms t).reply = t := rfl
      have HTN : Hid ((kOf g ms t).n 10 = ms.getD 0 0 ∧ (kOf g ms t).reply = t) := ⟨hten, hrp⟩
      clear herr his hok hpt hr hA hv1 hv2 hten hrp
      have l0 : wr.cell? ⟨q, 0, none⟩ = some (.int .i64 (ms.getD 0 0)) := HM.out.cs 0 (by rw [HLN.out]; omega)
      generalize hK0 : kOf g ms t = k0 at *
      clear hK0
      by_cases hnx : nx = s.size
      case neg =>
        have hbad : okV g s = false := by
          rw [HIS.out.1]
          have : (nx == s.size) = false := by simpa using hnx
          rw [this]; rfl
        have HBAD : Hid _ := hbad
        have hb1 : ((nx : Int) != (s.size : Int)) = true := by simp only [bne_iff_ne, ne_eq]; omega
        have hb2 : ((nx : Int) == (s.size : Int)) = false := by simp only [beq_eq_false_iff_ne, ne_eq]; omega
        have hb3 : ¬ (nx : Int) = (s.size : Int) := by omega
        clear hbad
        have c0 : wr.cell? ⟨w.heap.size + 1, 0, none⟩ = some (.int .i64 (kk.n 0)) := HM.out.x6.cell (by rw [← hkk]; rfl)
        have c1 : wr.cell? ⟨w.heap.size + 1, 1, none⟩ = some (.int .i64 (kk.n 1)) := HM.out.x6.cell (by rw [← hkk]; rfl)
        have c2 : wr.cell? ⟨w.heap.size + 1, 2, none⟩ = some (.int .i64 (kk.n 2)) := HM.out.x6.cell (by rw [← hkk]; rfl)
        have c3 : wr.cell? ⟨w.heap.size + 1, 3, none⟩ = some (.int .i64 (kk.n 3)) := HM.out.x6.cell (by rw [← hkk]; rfl)
        have c4 : wr.cell? ⟨w.heap.size + 1, 4, none⟩ = some (.int .i64 (kk.n 4)) := HM.out.x6.cell (by rw [← hkk]; rfl)
        have c5 : wr.cell? ⟨w.heap.size + 1, 5, none⟩ = some (.int .i64 (kk.n 5)) := HM.out.x6.cell (by rw [← hkk]; rfl)
        have c6 : wr.cell? ⟨w.heap.size + 1, 6, none⟩ = some (.int .i64 (kk.n 6)) := HM.out.x6.cell (by rw [← hkk]; rfl)
        have c7 : wr.cell? ⟨w.heap.size + 1, 7, none⟩ = some (.int .i64 (kk.n 7)) := HM.out.x6.cell (by rw [← hkk]; rfl)
        have c8 : wr.cell? ⟨w.heap.size + 1, 8, none⟩ = some (.int .i64 (kk.n 8)) := HM.out.x6.cell (by rw [← hkk]; rfl)
        have c9 : wr.cell? ⟨w.heap.size + 1, 9, none⟩ = some (.int .i64 (kk.n 9)) := HM.out.x6.cell (by rw [← hkk]; rfl)
        have c10 : wr.cell? ⟨w.heap.size + 1, 10, none⟩ = some (.int .i64 (kk.n 10)) := HM.out.x6.cell (by rw [← hkk]; rfl)
        have c11 : wr.cell? ⟨w.heap.size + 1, 11, none⟩ = some (.string kk.reply) := HM.out.x6.cell (by rw [← hkk]; rfl)
        have X4 := HM.out.x4
        obtain ⟨W9, hW9, X9, B9⟩ : ∃ W9, wr.setRow w.heap.size #[.int .i64 (kk.n 0), .int .i64 (kk.n 1), .int .i64 (kk.n 2), .int .i64 (kk.n 3), .int .i64 (kk.n 4), .int .i64 (kk.n 5), .int .i64 (kk.n 6), .int .i64 (kk.n 7), .int .i64 (kk.n 8), .int .i64 (kk.n 9), .int .i64 (kk.n 10), .string kk.reply] = W9 ∧ Blk W9 w.heap.size #[.int .i64 (kk.n 0), .int .i64 (kk.n 1), .int .i64 (kk.n 2), .int .i64 (kk.n 3), .int .i64 (kk.n 4), .int .i64 (kk.n 5), .int .i64 (kk.n 6), .int .i64 (kk.n 7), .int .i64 (kk.n 8), .int .i64 (kk.n 9), .int .i64 (kk.n 10), .string kk.reply] 50 ∧ Below w.heap.size w W9 := ⟨_, rfl, Blk.setRow X4 _, below_setRow HM.out.bl _ _ (Nat.le_refl _)⟩
        have i1 : (Tryd.prog.info? 50).map (·.size) = some (#[.int .i64 (kk.n 0), .int .i64 (kk.n 1), .int .i64 (kk.n 2), .int .i64 (kk.n 3), .int .i64 (kk.n 4), .int .i64 (kk.n 5), .int .i64 (kk.n 6), .int .i64 (kk.n 7), .int .i64 (kk.n 8), .int .i64 (kk.n 9), .int .i64 (kk.n 10), .string kk.reply] : Array Value).size := infoRaS
        have i2 : (#[.int .i64 (kk.n 0), .int .i64 (kk.n 1), .int .i64 (kk.n 2), .int .i64 (kk.n 3), .int .i64 (kk.n 4), .int .i64 (kk.n 5), .int .i64 (kk.n 6), .int .i64 (kk.n 7), .int .i64 (kk.n 8), .int .i64 (kk.n 9), .int .i64 (kk.n 10), .string kk.reply] : Array Value).all (·.oneCell') = true := one12R _ _ _ _ _ _ _ _ _ _ _ _
        have i3 : (Kt.zero.cells.toArray : Array Value).size = (#[.int .i64 (kk.n 0), .int .i64 (kk.n 1), .int .i64 (kk.n 2), .int .i64 (kk.n 3), .int .i64 (kk.n 4), .int .i64 (kk.n 5), .int .i64 (kk.n 6), .int .i64 (kk.n 7), .int .i64 (kk.n 8), .int .i64 (kk.n 9), .int .i64 (kk.n 10), .string kk.reply] : Array Value).size := rfl
        have HX9 : Hid _ := X9
        have HB9 : Hid _ := B9
        clear X9 B9
        go_wp2_with fail
        refine Calls.mono (HT.out _) ?_
        rintro e w2 ⟨rfl, rfl⟩
        simp only [gotT]
        go_wp2_with ((with_reducible refine st_row (ty := 50) (cs' := #[.int .i64 (kk.n 0), .int .i64 (kk.n 1), .int .i64 (kk.n 2), .int .i64 (kk.n 3), .int .i64 (kk.n 4), .int .i64 (kk.n 5), .int .i64 (kk.n 6), .int .i64 (kk.n 7), .int .i64 (kk.n 8), .int .i64 (kk.n 9), .int .i64 (kk.n 10), .string kk.reply]) X4 i1 i3 i2 hW9 ?_ ?_ ?_); rfl; rfl)
        try simp only [Exit.inBlock, Exit.then]
        refine bodyPost_ret (v := .tuple #[.agg #[.int .i64 (kk.n 0), .int .i64 (kk.n 1), .int .i64 (kk.n 2), .int .i64 (kk.n 3), .int .i64 (kk.n 4), .int .i64 (kk.n 5), .int .i64 (kk.n 6), .int .i64 (kk.n 7), .int .i64 (kk.n 8), .int .i64 (kk.n 9), .int .i64 (kk.n 10), .string kk.reply], .bool false]) (read_results HX9.out rfl rfl) rfl ?_
        exact ⟨HB9.out, Or.inr ⟨HBAD.out, kk, rfl⟩⟩
      subst hnx
      have hb1 : ((s.size : Int) != (s.size : Int)) = false := by simp
      by_cases h256 : t.size ≤ 256
      case neg =>
        have hbad : okV g s = false := by
          rw [HIS.out.1]
          cases hs0 : soundB k0
          · simp
          · have := (sound_is hs0).2.2.1
            rw [HTN.out.2] at this
            omega
        have HBAD : Hid _ := hbad
        have hb2 : decide ((256 : Int) < t.size) = true := by simp only [decide_eq_true_eq]; omega
        have hb3 : decide ((t.size : Int) > 256) = true := hb2
        clear hbad
        have c0 : wr.cell? ⟨w.heap.size + 1, 0, none⟩ = some (.int .i64 (kk.n 0)) := HM.out.x6.cell (by rw [← hkk]; rfl)
        have c1 : wr.cell? ⟨w.heap.size + 1, 1, none⟩ = some (.int .i64 (kk.n 1)) := HM.out.x6.cell (by rw [← hkk]; rfl)
        have c2 : wr.cell? ⟨w.heap.size + 1, 2, none⟩ = some (.int .i64 (kk.n 2)) := HM.out.x6.cell (by rw [← hkk]; rfl)
        have c3 : wr.cell? ⟨w.heap.size + 1, 3, none⟩ = some (.int .i64 (kk.n 3)) := HM.out.x6.cell (by rw [← hkk]; rfl)
        have c4 : wr.cell? ⟨w.heap.size + 1, 4, none⟩ = some (.int .i64 (kk.n 4)) := HM.out.x6.cell (by rw [← hkk]; rfl)
        have c5 : wr.cell? ⟨w.heap.size + 1, 5, none⟩ = some (.int .i64 (kk.n 5)) := HM.out.x6.cell (by rw [← hkk]; rfl)
        have c6 : wr.cell? ⟨w.heap.size + 1, 6, none⟩ = some (.int .i64 (kk.n 6)) := HM.out.x6.cell (by rw [← hkk]; rfl)
        have c7 : wr.cell? ⟨w.heap.size + 1, 7, none⟩ = some (.int .i64 (kk.n 7)) := HM.out.x6.cell (by rw [← hkk]; rfl)
        have c8 : wr.cell? ⟨w.heap.size + 1, 8, none⟩ = some (.int .i64 (kk.n 8)) := HM.out.x6.cell (by rw [← hkk]; rfl)
        have c9 : wr.cell? ⟨w.heap.size + 1, 9, none⟩ = some (.int .i64 (kk.n 9)) := HM.out.x6.cell (by rw [← hkk]; rfl)
        have c10 : wr.cell? ⟨w.heap.size + 1, 10, none⟩ = some (.int .i64 (kk.n 10)) := HM.out.x6.cell (by rw [← hkk]; rfl)
        have c11 : wr.cell? ⟨w.heap.size + 1, 11, none⟩ = some (.string kk.reply) := HM.out.x6.cell (by rw [← hkk]; rfl)
        have X4 := HM.out.x4
        obtain ⟨W9, hW9, X9, B9⟩ : ∃ W9, wr.setRow w.heap.size #[.int .i64 (kk.n 0), .int .i64 (kk.n 1), .int .i64 (kk.n 2), .int .i64 (kk.n 3), .int .i64 (kk.n 4), .int .i64 (kk.n 5), .int .i64 (kk.n 6), .int .i64 (kk.n 7), .int .i64 (kk.n 8), .int .i64 (kk.n 9), .int .i64 (kk.n 10), .string kk.reply] = W9 ∧ Blk W9 w.heap.size #[.int .i64 (kk.n 0), .int .i64 (kk.n 1), .int .i64 (kk.n 2), .int .i64 (kk.n 3), .int .i64 (kk.n 4), .int .i64 (kk.n 5), .int .i64 (kk.n 6), .int .i64 (kk.n 7), .int .i64 (kk.n 8), .int .i64 (kk.n 9), .int .i64 (kk.n 10), .string kk.reply] 50 ∧ Below w.heap.size w W9 := ⟨_, rfl, Blk.setRow X4 _, below_setRow HM.out.bl _ _ (Nat.le_refl _)⟩
        have i1 : (Tryd.prog.info? 50).map (·.size) = some (#[.int .i64 (kk.n 0), .int .i64 (kk.n 1), .int .i64 (kk.n 2), .int .i64 (kk.n 3), .int .i64 (kk.n 4), .int .i64 (kk.n 5), .int .i64 (kk.n 6), .int .i64 (kk.n 7), .int .i64 (kk.n 8), .int .i64 (kk.n 9), .int .i64 (kk.n 10), .string kk.reply] : Array Value).size := infoRaS
        have i2 : (#[.int .i64 (kk.n 0), .int .i64 (kk.n 1), .int .i64 (kk.n 2), .int .i64 (kk.n 3), .int .i64 (kk.n 4), .int .i64 (kk.n 5), .int .i64 (kk.n 6), .int .i64 (kk.n 7), .int .i64 (kk.n 8), .int .i64 (kk.n 9), .int .i64 (kk.n 10), .string kk.reply] : Array Value).all (·.oneCell') = true := one12R _ _ _ _ _ _ _ _ _ _ _ _
        have i3 : (Kt.zero.cells.toArray : Array Value).size = (#[.int .i64 (kk.n 0), .int .i64 (kk.n 1), .int .i64 (kk.n 2), .int .i64 (kk.n 3), .int .i64 (kk.n 4), .int .i64 (kk.n 5), .int .i64 (kk.n 6), .int .i64 (kk.n 7), .int .i64 (kk.n 8), .int .i64 (kk.n 9), .int .i64 (kk.n 10), .string kk.reply] : Array Value).size := rfl
        have HX9 : Hid _ := X9
        have HB9 : Hid _ := B9
        clear X9 B9
        go_wp2_with fail
        refine Calls.mono (HT.out _) ?_
        rintro e w2 ⟨rfl, rfl⟩
        simp only [gotT]
        go_wp2_with ((with_reducible refine st_row (ty := 50) (cs' := #[.int .i64 (kk.n 0), .int .i64 (kk.n 1), .int .i64 (kk.n 2), .int .i64 (kk.n 3), .int .i64 (kk.n 4), .int .i64 (kk.n 5), .int .i64 (kk.n 6), .int .i64 (kk.n 7), .int .i64 (kk.n 8), .int .i64 (kk.n 9), .int .i64 (kk.n 10), .string kk.reply]) X4 i1 i3 i2 hW9 ?_ ?_ ?_); rfl; rfl)
        try simp only [Exit.inBlock, Exit.then]
        refine bodyPost_ret (v := .tuple #[.agg #[.int .i64 (kk.n 0), .int .i64 (kk.n 1), .int .i64 (kk.n 2), .int .i64 (kk.n 3), .int .i64 (kk.n 4), .int .i64 (kk.n 5), .int .i64 (kk.n 6), .int .i64 (kk.n 7), .int .i64 (kk.n 8), .int .i64 (kk.n 9), .int .i64 (kk.n 10), .string kk.reply], .bool false]) (read_results HX9.out rfl rfl) rfl ?_
        exact ⟨HB9.out, Or.inr ⟨HBAD.out, kk, rfl⟩⟩
      have hb2 : decide ((256 : Int) < t.size) = false := by simp only [decide_eq_false_iff_not]; omega
      have hb3 : decide ((t.size : Int) > 256) = false := hb2
      obtain ⟨m0, hm0⟩ : ∃ m0, ms.getD 0 0 = m0 := ⟨_, rfl⟩
      have HM0 : Hid (ms.getD 0 0 = m0) := hm0
      rw [hm0] at l0
      clear hm0
      by_cases hz : m0 = 0 ∧ ¬ t.toList = []
      case pos =>
        obtain ⟨rfl, hte⟩ := hz
        have hbad : okV g s = false := by
          rw [HIS.out.1]
          cases hs0 : soundB k0
          · simp
          · have h3 := (sound_is hs0).2.2.2 (HTN.out.1.trans HM0.out) (HOKK.out.num 10 (by omega)).1
            rw [HTN.out.2] at h3
            exact absurd (by rw [h3, ByteArray.toList_eq]) hte
        have HBAD : Hid _ := hbad
        have hb4 : (t.toList != []) = true := by simpa using hte
        have hb5 : (t.toList == []) = false := by simpa using hte
        clear hbad
        have c0 : wr.cell? ⟨w.heap.size + 1, 0, none⟩ = some (.int .i64 (kk.n 0)) := HM.out.x6.cell (by rw [← hkk]; rfl)
        have c1 : wr.cell? ⟨w.heap.size + 1, 1, none⟩ = some (.int .i64 (kk.n 1)) := HM.out.x6.cell (by rw [← hkk]; rfl)
        have c2 : wr.cell? ⟨w.heap.size + 1, 2, none⟩ = some (.int .i64 (kk.n 2)) := HM.out.x6.cell (by rw [← hkk]; rfl)
        have c3 : wr.cell? ⟨w.heap.size + 1, 3, none⟩ = some (.int .i64 (kk.n 3)) := HM.out.x6.cell (by rw [← hkk]; rfl)
        have c4 : wr.cell? ⟨w.heap.size + 1, 4, none⟩ = some (.int .i64 (kk.n 4)) := HM.out.x6.cell (by rw [← hkk]; rfl)
        have c5 : wr.cell? ⟨w.heap.size + 1, 5, none⟩ = some (.int .i64 (kk.n 5)) := HM.out.x6.cell (by rw [← hkk]; rfl)
        have c6 : wr.cell? ⟨w.heap.size + 1, 6, none⟩ = some (.int .i64 (kk.n 6)) := HM.out.x6.cell (by rw [← hkk]; rfl)
        have c7 : wr.cell? ⟨w.heap.size + 1, 7, none⟩ = some (.int .i64 (kk.n 7)) := HM.out.x6.cell (by rw [← hkk]; rfl)
        have c8 : wr.cell? ⟨w.heap.size + 1, 8, none⟩ = some (.int .i64 (kk.n 8)) := HM.out.x6.cell (by rw [← hkk]; rfl)
        have c9 : wr.cell? ⟨w.heap.size + 1, 9, none⟩ = some (.int .i64 (kk.n 9)) := HM.out.x6.cell (by rw [← hkk]; rfl)
        have c10 : wr.cell? ⟨w.heap.size + 1, 10, none⟩ = some (.int .i64 (kk.n 10)) := HM.out.x6.cell (by rw [← hkk]; rfl)
        have c11 : wr.cell? ⟨w.heap.size + 1, 11, none⟩ = some (.string kk.reply) := HM.out.x6.cell (by rw [← hkk]; rfl)
        have X4 := HM.out.x4
        obtain ⟨W9, hW9, X9, B9⟩ : ∃ W9, wr.setRow w.heap.size #[.int .i64 (kk.n 0), .int .i64 (kk.n 1), .int .i64 (kk.n 2), .int .i64 (kk.n 3), .int .i64 (kk.n 4), .int .i64 (kk.n 5), .int .i64 (kk.n 6), .int .i64 (kk.n 7), .int .i64 (kk.n 8), .int .i64 (kk.n 9), .int .i64 (kk.n 10), .string kk.reply] = W9 ∧ Blk W9 w.heap.size #[.int .i64 (kk.n 0), .int .i64 (kk.n 1), .int .i64 (kk.n 2), .int .i64 (kk.n 3), .int .i64 (kk.n 4), .int .i64 (kk.n 5), .int .i64 (kk.n 6), .int .i64 (kk.n 7), .int .i64 (kk.n 8), .int .i64 (kk.n 9), .int .i64 (kk.n 10), .string kk.reply] 50 ∧ Below w.heap.size w W9 := ⟨_, rfl, Blk.setRow X4 _, below_setRow HM.out.bl _ _ (Nat.le_refl _)⟩
        have i1 : (Tryd.prog.info? 50).map (·.size) = some (#[.int .i64 (kk.n 0), .int .i64 (kk.n 1), .int .i64 (kk.n 2), .int .i64 (kk.n 3), .int .i64 (kk.n 4), .int .i64 (kk.n 5), .int .i64 (kk.n 6), .int .i64 (kk.n 7), .int .i64 (kk.n 8), .int .i64 (kk.n 9), .int .i64 (kk.n 10), .string kk.reply] : Array Value).size := infoRaS
        have i2 : (#[.int .i64 (kk.n 0), .int .i64 (kk.n 1), .int .i64 (kk.n 2), .int .i64 (kk.n 3), .int .i64 (kk.n 4), .int .i64 (kk.n 5), .int .i64 (kk.n 6), .int .i64 (kk.n 7), .int .i64 (kk.n 8), .int .i64 (kk.n 9), .int .i64 (kk.n 10), .string kk.reply] : Array Value).all (·.oneCell') = true := one12R _ _ _ _ _ _ _ _ _ _ _ _
        have i3 : (Kt.zero.cells.toArray : Array Value).size = (#[.int .i64 (kk.n 0), .int .i64 (kk.n 1), .int .i64 (kk.n 2), .int .i64 (kk.n 3), .int .i64 (kk.n 4), .int .i64 (kk.n 5), .int .i64 (kk.n 6), .int .i64 (kk.n 7), .int .i64 (kk.n 8), .int .i64 (kk.n 9), .int .i64 (kk.n 10), .string kk.reply] : Array Value).size := rfl
        have HX9 : Hid _ := X9
        have HB9 : Hid _ := B9
        clear X9 B9
        go_wp2_with fail
        refine Calls.mono (HT.out _) ?_
        rintro e w2 ⟨rfl, rfl⟩
        simp only [gotT]
        go_wp2_with ((with_reducible refine st_row (ty := 50) (cs' := #[.int .i64 (kk.n 0), .int .i64 (kk.n 1), .int .i64 (kk.n 2), .int .i64 (kk.n 3), .int .i64 (kk.n 4), .int .i64 (kk.n 5), .int .i64 (kk.n 6), .int .i64 (kk.n 7), .int .i64 (kk.n 8), .int .i64 (kk.n 9), .int .i64 (kk.n 10), .string kk.reply]) X4 i1 i3 i2 hW9 ?_ ?_ ?_); rfl; rfl)
        try simp only [Exit.inBlock, Exit.then]
        refine bodyPost_ret (v := .tuple #[.agg #[.int .i64 (kk.n 0), .int .i64 (kk.n 1), .int .i64 (kk.n 2), .int .i64 (kk.n 3), .int .i64 (kk.n 4), .int .i64 (kk.n 5), .int .i64 (kk.n 6), .int .i64 (kk.n 7), .int .i64 (kk.n 8), .int .i64 (kk.n 9), .int .i64 (kk.n 10), .string kk.reply], .bool false]) (read_results HX9.out rfl rfl) rfl ?_
        exact ⟨HB9.out, Or.inr ⟨HBAD.out, kk, rfl⟩⟩
      by_cases hz0 : m0 = 0
      · have hte : t.toList = [] := Classical.byContradiction fun h => hz ⟨hz0, h⟩
        have hb4 : (t.toList != []) = false := by rw [hte]; rfl
        have hb5 : (t.toList == []) = true := by rw [hte]; rfl
        have hb6 : ((0 : Int) == 0) = true := rfl
        have HT0 : Hid (k0.n 10 = 0 → t.toList = []) := fun _ => hte
        clear hz
        subst hz0
        have e10 : wr.cell? ⟨w.heap.size + 1, 10, none⟩ = some (.int .i64 (kk.n 10)) := HM.out.x6.cell (by rw [← hkk]; rfl)
        have f10 : wr.frozen? ⟨w.heap.size + 1, 10, none⟩ = false := HM.out.x6.frozen
        have HM5 : Hid (Rd2 w ((wr.setCell ⟨w.heap.size + 1, 10, none⟩ (.int .i64 0)).setCell ⟨w.heap.size + 1, 11, none⟩ (.string t)) (docTo k0 0) q ms) := by
          refine ((HM.out.set (j := 10) (by omega) 0).setT t).congr ?_
          obtain ⟨h1, h2⟩ := HTN.out
          rw [← hkk]
          refine kt_ext (fun f hf => ?_) h2.symm
          show (if f = 10 then 0 else 0) = if f < 0 then k0.n (apf f) - k0.n (hpf f) else if 5 ≤ f ∧ f < 5 + 0 then k0.n (hpf (f - 5)) else if f = 10 then k0.n 10 else 0
          rw [if_neg (Nat.not_lt_zero f), if_neg (show ¬ (5 ≤ f ∧ f < 5 + 0) by omega), h1, HM0.out]
        have e11 : (wr.setCell ⟨w.heap.size + 1, 10, none⟩ (.int .i64 0)).cell? ⟨w.heap.size + 1, 11, none⟩ = some (.string ⟨#[]⟩) := (HM.out.set (j := 10) (by omega) 0).x6.cell (by rw [← hkk]; rfl)
        have f11 : (wr.setCell ⟨w.heap.size + 1, 10, none⟩ (.int .i64 0)).frozen? ⟨w.heap.size + 1, 11, none⟩ = false := (HM.out.set (j := 10) (by omega) 0).x6.frozen
        clear hkk HM
        go_wp2_with fail
        refine Calls.mono (HT.out _) ?_
        rintro e w2 ⟨rfl, rfl⟩
        simp only [gotT]
        go_wp2_with fail
        clear e10 f10 e11 f11 HT
        go_loopw [15] (fun i wr => ∃ p : Nat, p ≤ g + 1 ∧ i = .int .i64 p ∧ Hid (∀ z, z < p → k0.n (hpf z) ≤ k0.n (apf z)) ∧ Hid (Rd2 w wr (docTo k0 p) q ms)) (fun i _ => 6 - (intOf i).toNat)
        case atStart => exact ⟨0, by omega, rfl, fun z hz => by omega, HM5⟩
        case round =>
          clear HM5
          obtain ⟨p, hp, rfl, HP, HM⟩ := hrel
          obtain ⟨kk, hkk⟩ : ∃ kk, docTo k0 p = kk := ⟨_, rfl⟩
          rw [hkk] at HM
          by_cases hpg : p ≤ g
          · have hd1 : decide ((p : Int) ≤ g) = true := by simp only [decide_eq_true_eq]; omega
            obtain ⟨q1, q2, _⟩ := HPT.out p hpg
            have cc1 : wr.cell? ⟨q, 1, none⟩ = some (.int .i64 (ms.getD 1 0)) := HM.out.cs 1 (by rw [HLN.out]; omega)
            have cc2 : wr.cell? ⟨q, 2, none⟩ = some (.int .i64 (ms.getD 2 0)) := HM.out.cs 2 (by rw [HLN.out]; omega)
            have n0 := HOKK.out.num (apf p) (by unfold apf; split <;> omega)
            have n1 := HOKK.out.num (hpf p) (by unfold hpf; split <;> omega)
            obtain ⟨va, hva⟩ : ∃ va, k0.n (apf p) = va := ⟨_, rfl⟩
            obtain ⟨vb, hvb⟩ : ∃ vb, k0.n (hpf p) = vb := ⟨_, rfl⟩
            rw [hva] at q1 n0
            rw [hvb] at q2 n1
            have HV : Hid (k0.n (apf p) = va ∧ k0.n (hpf p) = vb) := ⟨hva, hvb⟩
            have hws : IntKind.i64.wrap (va - vb) = va - vb := by rw [IntKind.wrap_i64]; omega
            clear hva hvb n0 n1 hp
            by_cases hp0 : p = 0
            · subst hp0
              rw [if_pos rfl] at q1 q2
              rw [← q1] at cc1
              rw [← q2] at cc2
              clear q1 q2
              go_wp2_with fail
              go_quiet (fail)
              have HN : Hid (Rd2 w (wr.drewN nq) kk q ms) := HM.out.drewN nq
              clear HM cc1 cc2
              generalize wr.drewN nq = wx at *
              by_cases hba : vb ≤ va
              · have hgt : decide (va < vb) = false := decide_eq_false (by omega)
                have hgt2 : decide (vb > va) = false := hgt
                have ep : wx.cell? ⟨w.heap.size + 1, 0, none⟩ = some (.int .i64 (kk.n 0)) := HN.out.x6.cell (by rw [List.getElem?_toArray]; exact Kt.num kk 0 (by omega))
                have fp : wx.frozen? ⟨w.heap.size + 1, 0, none⟩ = false := HN.out.x6.frozen
                have HMs : Hid _ := HN.out.set (j := 0) (by omega) (va - vb)
                have ep5 : (wx.setCell ⟨w.heap.size + 1, 0, none⟩ (.int .i64 (va - vb))).cell? ⟨w.heap.size + 1, 5, none⟩ = some (.int .i64 ((kk.put 0 (va - vb)).n (5))) := HMs.out.x6.cell (by rw [List.getElem?_toArray]; exact Kt.num _ (5) (by omega))
                have fp5 : (wx.setCell ⟨w.heap.size + 1, 0, none⟩ (.int .i64 (va - vb))).frozen? ⟨w.heap.size + 1, 5, none⟩ = false := HMs.out.x6.frozen
                have HMf : Hid (Rd2 w ((wx.setCell ⟨w.heap.size + 1, 0, none⟩ (.int .i64 (va - vb))).setCell ⟨w.heap.size + 1, 5, none⟩ (.int .i64 vb)) (docTo k0 (0 + 1)) q ms) := by
                  refine (HMs.out.set (j := 5) (by omega) vb).congr ?_
                  have e := docTo_step k0 (p := 0) (by omega)
                  rw [HV.out.1, HV.out.2, hkk] at e
                  exact e
                have HPf : Hid (∀ z, z < 0 + 1 → k0.n (hpf z) ≤ k0.n (apf z)) := fun z hz => by
                  by_cases e : z = 0
                  · rw [e, HV.out.1, HV.out.2]; exact hba
                  · exact HP.out z (by omega)
                clear hba HMs HN HP hkk
                go_wp2_with fail
                exact ⟨⟨0 + 1, by omega, by norm_cast, HPf, HMf⟩, by simp [intOf] <;> omega⟩
              · have hbad : okV g s = false := by
                  rw [HIS.out.1]
                  cases hs0 : soundB k0
                  · simp
                  · have := sound_part hs0 (p := 0) (by omega)
                    rw [HV.out.1, HV.out.2] at this
                    exact absurd this hba
                have HBAD : Hid _ := hbad
                have hgt : decide (va < vb) = true := decide_eq_true (by omega)
                have hgt2 : decide (vb > va) = true := hgt
                clear hbad hba
                have c0 : wx.cell? ⟨w.heap.size + 1, 0, none⟩ = some (.int .i64 (kk.n 0)) := HN.out.x6.cell (by rw [← hkk]; rfl)
                have c1 : wx.cell? ⟨w.heap.size + 1, 1, none⟩ = some (.int .i64 (kk.n 1)) := HN.out.x6.cell (by rw [← hkk]; rfl)
                have c2 : wx.cell? ⟨w.heap.size + 1, 2, none⟩ = some (.int .i64 (kk.n 2)) := HN.out.x6.cell (by rw [← hkk]; rfl)
                have c3 : wx.cell? ⟨w.heap.size + 1, 3, none⟩ = some (.int .i64 (kk.n 3)) := HN.out.x6.cell (by rw [← hkk]; rfl)
                have c4 : wx.cell? ⟨w.heap.size + 1, 4, none⟩ = some (.int .i64 (kk.n 4)) := HN.out.x6.cell (by rw [← hkk]; rfl)
                have c5 : wx.cell? ⟨w.heap.size + 1, 5, none⟩ = some (.int .i64 (kk.n 5)) := HN.out.x6.cell (by rw [← hkk]; rfl)
                have c6 : wx.cell? ⟨w.heap.size + 1, 6, none⟩ = some (.int .i64 (kk.n 6)) := HN.out.x6.cell (by rw [← hkk]; rfl)
                have c7 : wx.cell? ⟨w.heap.size + 1, 7, none⟩ = some (.int .i64 (kk.n 7)) := HN.out.x6.cell (by rw [← hkk]; rfl)
                have c8 : wx.cell? ⟨w.heap.size + 1, 8, none⟩ = some (.int .i64 (kk.n 8)) := HN.out.x6.cell (by rw [← hkk]; rfl)
                have c9 : wx.cell? ⟨w.heap.size + 1, 9, none⟩ = some (.int .i64 (kk.n 9)) := HN.out.x6.cell (by rw [← hkk]; rfl)
                have c10 : wx.cell? ⟨w.heap.size + 1, 10, none⟩ = some (.int .i64 (kk.n 10)) := HN.out.x6.cell (by rw [← hkk]; rfl)
                have c11 : wx.cell? ⟨w.heap.size + 1, 11, none⟩ = some (.string kk.reply) := HN.out.x6.cell (by rw [← hkk]; rfl)
                have X4 := HN.out.x4
                obtain ⟨W9, hW9, X9, B9⟩ : ∃ W9, wx.setRow w.heap.size #[.int .i64 (kk.n 0), .int .i64 (kk.n 1), .int .i64 (kk.n 2), .int .i64 (kk.n 3), .int .i64 (kk.n 4), .int .i64 (kk.n 5), .int .i64 (kk.n 6), .int .i64 (kk.n 7), .int .i64 (kk.n 8), .int .i64 (kk.n 9), .int .i64 (kk.n 10), .string kk.reply] = W9 ∧ Blk W9 w.heap.size #[.int .i64 (kk.n 0), .int .i64 (kk.n 1), .int .i64 (kk.n 2), .int .i64 (kk.n 3), .int .i64 (kk.n 4), .int .i64 (kk.n 5), .int .i64 (kk.n 6), .int .i64 (kk.n 7), .int .i64 (kk.n 8), .int .i64 (kk.n 9), .int .i64 (kk.n 10), .string kk.reply] 50 ∧ Below w.heap.size w W9 := ⟨_, rfl, Blk.setRow X4 _, below_setRow HN.out.bl _ _ (Nat.le_refl _)⟩
                have i1 : (Tryd.prog.info? 50).map (·.size) = some (#[.int .i64 (kk.n 0), .int .i64 (kk.n 1), .int .i64 (kk.n 2), .int .i64 (kk.n 3), .int .i64 (kk.n 4), .int .i64 (kk.n 5), .int .i64 (kk.n 6), .int .i64 (kk.n 7), .int .i64 (kk.n 8), .int .i64 (kk.n 9), .int .i64 (kk.n 10), .string kk.reply] : Array Value).size := infoRaS
                have i2 : (#[.int .i64 (kk.n 0), .int .i64 (kk.n 1), .int .i64 (kk.n 2), .int .i64 (kk.n 3), .int .i64 (kk.n 4), .int .i64 (kk.n 5), .int .i64 (kk.n 6), .int .i64 (kk.n 7), .int .i64 (kk.n 8), .int .i64 (kk.n 9), .int .i64 (kk.n 10), .string kk.reply] : Array Value).all (·.oneCell') = true := one12R _ _ _ _ _ _ _ _ _ _ _ _
                have i3 : (Kt.zero.cells.toArray : Array Value).size = (#[.int .i64 (kk.n 0), .int .i64 (kk.n 1), .int .i64 (kk.n 2), .int .i64 (kk.n 3), .int .i64 (kk.n 4), .int .i64 (kk.n 5), .int .i64 (kk.n 6), .int .i64 (kk.n 7), .int .i64 (kk.n 8), .int .i64 (kk.n 9), .int .i64 (kk.n 10), .string kk.reply] : Array Value).size := rfl
                have HX9 : Hid _ := X9
                have HB9 : Hid _ := B9
                clear X9 B9
                go_wp2_with ((with_reducible refine st_row (ty := 50) (cs' := #[.int .i64 (kk.n 0), .int .i64 (kk.n 1), .int .i64 (kk.n 2), .int .i64 (kk.n 3), .int .i64 (kk.n 4), .int .i64 (kk.n 5), .int .i64 (kk.n 6), .int .i64 (kk.n 7), .int .i64 (kk.n 8), .int .i64 (kk.n 9), .int .i64 (kk.n 10), .string kk.reply]) X4 i1 i3 i2 hW9 ?_ ?_ ?_); rfl; rfl)
                try simp only [Exit.inBlock, Exit.then]
                refine bodyPost_ret (v := .tuple #[.agg #[.int .i64 (kk.n 0), .int .i64 (kk.n 1), .int .i64 (kk.n 2), .int .i64 (kk.n 3), .int .i64 (kk.n 4), .int .i64 (kk.n 5), .int .i64 (kk.n 6), .int .i64 (kk.n 7), .int .i64 (kk.n 8), .int .i64 (kk.n 9), .int .i64 (kk.n 10), .string kk.reply], .bool false]) (read_results HX9.out rfl rfl) rfl ?_
                exact ⟨HB9.out, Or.inr ⟨HBAD.out, kk, rfl⟩⟩
            · rw [if_neg hp0] at q1 q2
              go_wp2_with fail
              go_quiet (fail)
              have HN : Hid (Rd2 w (wr.drewN nq) kk q ms) := HM.out.drewN nq
              clear HM cc1 cc2
              generalize wr.drewN nq = wy at *
              have cc3 : wy.cell? ⟨q, 2 + p, none⟩ = some (.int .i64 va) := by rw [q1]; exact HN.out.cs (2 + p) (by rw [HLN.out]; omega)
              have cc4 : wy.cell? ⟨q, 2 + g + p, none⟩ = some (.int .i64 vb) := by rw [q2]; exact HN.out.cs (2 + g + p) (by rw [HLN.out]; omega)
              have hw3 : IntKind.i64.wrap (2 + (p : Int)) = 2 + p := by rw [IntKind.wrap_i64]; omega
              have hw4 : IntKind.i64.wrap (2 + (g : Int)) = 2 + g := by rw [IntKind.wrap_i64]; omega
              have hw5 : IntKind.i64.wrap (2 + (g : Int) + p) = 2 + g + p := by rw [IntKind.wrap_i64]; omega
              have ht3 : (2 + (p : Int)).toNat = 2 + p := by omega
              have ht4 : (2 + (g : Int) + p).toNat = 2 + g + p := by omega
              have hpos : decide ((p : Int) > 0) = true := decide_eq_true (by omega)
              have hpos2 : decide (0 < (p : Int)) = true := decide_eq_true (by omega)
              clear q1 q2
              go_wp2_with fail
              go_quiet (fail)
              have HN2 : Hid (Rd2 w (wy.drewN nq) kk q ms) := HN.out.drewN nq
              clear HN cc3 cc4 hw3 hw4 hw5 ht3 ht4
              have HN := HN2
              clear HN2
              generalize wy.drewN nq = wx at *
              by_cases hba : vb ≤ va
              · have hgt : decide (va < vb) = false := decide_eq_false (by omega)
                have hgt2 : decide (vb > va) = false := hgt
                have ep : wx.cell? ⟨w.heap.size + 1, p, none⟩ = some (.int .i64 (kk.n p)) := HN.out.x6.cell (by rw [List.getElem?_toArray]; exact Kt.num kk p (by omega))
                have fp : wx.frozen? ⟨w.heap.size + 1, p, none⟩ = false := HN.out.x6.frozen
                have HMs : Hid _ := HN.out.set (j := p) (by omega) (va - vb)
                have ep5 : (wx.setCell ⟨w.heap.size + 1, p, none⟩ (.int .i64 (va - vb))).cell? ⟨w.heap.size + 1, 5 + p, none⟩ = some (.int .i64 ((kk.put p (va - vb)).n (5 + p))) := HMs.out.x6.cell (by rw [List.getElem?_toArray]; exact Kt.num _ (5 + p) (by omega))
                have fp5 : (wx.setCell ⟨w.heap.size + 1, p, none⟩ (.int .i64 (va - vb))).frozen? ⟨w.heap.size + 1, 5 + p, none⟩ = false := HMs.out.x6.frozen
                have HMf : Hid (Rd2 w ((wx.setCell ⟨w.heap.size + 1, p, none⟩ (.int .i64 (va - vb))).setCell ⟨w.heap.size + 1, 5 + p, none⟩ (.int .i64 vb)) (docTo k0 (p + 1)) q ms) := by
                  refine (HMs.out.set (j := 5 + p) (by omega) vb).congr ?_
                  have e := docTo_step k0 (p := p) (by omega)
                  rw [HV.out.1, HV.out.2, hkk] at e
                  exact e
                have HPf : Hid (∀ z, z < p + 1 → k0.n (hpf z) ≤ k0.n (apf z)) := fun z hz => by
                  by_cases e : z = p
                  · rw [e, HV.out.1, HV.out.2]; exact hba
                  · exact HP.out z (by omega)
                clear hba HMs HN HP hkk
                go_wp2_with fail
                exact ⟨⟨p + 1, by omega, by norm_cast, HPf, HMf⟩, by simp [intOf] <;> omega⟩
              · have hbad : okV g s = false := by
                  rw [HIS.out.1]
                  cases hs0 : soundB k0
                  · simp
                  · have := sound_part hs0 (p := p) (by omega)
                    rw [HV.out.1, HV.out.2] at this
                    exact absurd this hba
                have HBAD : Hid _ := hbad
                have hgt : decide (va < vb) = true := decide_eq_true (by omega)
                have hgt2 : decide (vb > va) = true := hgt
                clear hbad hba
                have c0 : wx.cell? ⟨w.heap.size + 1, 0, none⟩ = some (.int .i64 (kk.n 0)) := HN.out.x6.cell (by rw [← hkk]; rfl)
                have c1 : wx.cell? ⟨w.heap.size + 1, 1, none⟩ = some (.int .i64 (kk.n 1)) := HN.out.x6.cell (by rw [← hkk]; rfl)
                have c2 : wx.cell? ⟨w.heap.size + 1, 2, none⟩ = some (.int .i64 (kk.n 2)) := HN.out.x6.cell (by rw [← hkk]; rfl)
                have c3 : wx.cell? ⟨w.heap.size + 1, 3, none⟩ = some (.int .i64 (kk.n 3)) := HN.out.x6.cell (by rw [← hkk]; rfl)
                have c4 : wx.cell? ⟨w.heap.size + 1, 4, none⟩ = some (.int .i64 (kk.n 4)) := HN.out.x6.cell (by rw [← hkk]; rfl)
                have c5 : wx.cell? ⟨w.heap.size + 1, 5, none⟩ = some (.int .i64 (kk.n 5)) := HN.out.x6.cell (by rw [← hkk]; rfl)
                have c6 : wx.cell? ⟨w.heap.size + 1, 6, none⟩ = some (.int .i64 (kk.n 6)) := HN.out.x6.cell (by rw [← hkk]; rfl)
                have c7 : wx.cell? ⟨w.heap.size + 1, 7, none⟩ = some (.int .i64 (kk.n 7)) := HN.out.x6.cell (by rw [← hkk]; rfl)
                have c8 : wx.cell? ⟨w.heap.size + 1, 8, none⟩ = some (.int .i64 (kk.n 8)) := HN.out.x6.cell (by rw [← hkk]; rfl)
                have c9 : wx.cell? ⟨w.heap.size + 1, 9, none⟩ = some (.int .i64 (kk.n 9)) := HN.out.x6.cell (by rw [← hkk]; rfl)
                have c10 : wx.cell? ⟨w.heap.size + 1, 10, none⟩ = some (.int .i64 (kk.n 10)) := HN.out.x6.cell (by rw [← hkk]; rfl)
                have c11 : wx.cell? ⟨w.heap.size + 1, 11, none⟩ = some (.string kk.reply) := HN.out.x6.cell (by rw [← hkk]; rfl)
                have X4 := HN.out.x4
                obtain ⟨W9, hW9, X9, B9⟩ : ∃ W9, wx.setRow w.heap.size #[.int .i64 (kk.n 0), .int .i64 (kk.n 1), .int .i64 (kk.n 2), .int .i64 (kk.n 3), .int .i64 (kk.n 4), .int .i64 (kk.n 5), .int .i64 (kk.n 6), .int .i64 (kk.n 7), .int .i64 (kk.n 8), .int .i64 (kk.n 9), .int .i64 (kk.n 10), .string kk.reply] = W9 ∧ Blk W9 w.heap.size #[.int .i64 (kk.n 0), .int .i64 (kk.n 1), .int .i64 (kk.n 2), .int .i64 (kk.n 3), .int .i64 (kk.n 4), .int .i64 (kk.n 5), .int .i64 (kk.n 6), .int .i64 (kk.n 7), .int .i64 (kk.n 8), .int .i64 (kk.n 9), .int .i64 (kk.n 10), .string kk.reply] 50 ∧ Below w.heap.size w W9 := ⟨_, rfl, Blk.setRow X4 _, below_setRow HN.out.bl _ _ (Nat.le_refl _)⟩
                have i1 : (Tryd.prog.info? 50).map (·.size) = some (#[.int .i64 (kk.n 0), .int .i64 (kk.n 1), .int .i64 (kk.n 2), .int .i64 (kk.n 3), .int .i64 (kk.n 4), .int .i64 (kk.n 5), .int .i64 (kk.n 6), .int .i64 (kk.n 7), .int .i64 (kk.n 8), .int .i64 (kk.n 9), .int .i64 (kk.n 10), .string kk.reply] : Array Value).size := infoRaS
                have i2 : (#[.int .i64 (kk.n 0), .int .i64 (kk.n 1), .int .i64 (kk.n 2), .int .i64 (kk.n 3), .int .i64 (kk.n 4), .int .i64 (kk.n 5), .int .i64 (kk.n 6), .int .i64 (kk.n 7), .int .i64 (kk.n 8), .int .i64 (kk.n 9), .int .i64 (kk.n 10), .string kk.reply] : Array Value).all (·.oneCell') = true := one12R _ _ _ _ _ _ _ _ _ _ _ _
                have i3 : (Kt.zero.cells.toArray : Array Value).size = (#[.int .i64 (kk.n 0), .int .i64 (kk.n 1), .int .i64 (kk.n 2), .int .i64 (kk.n 3), .int .i64 (kk.n 4), .int .i64 (kk.n 5), .int .i64 (kk.n 6), .int .i64 (kk.n 7), .int .i64 (kk.n 8), .int .i64 (kk.n 9), .int .i64 (kk.n 10), .string kk.reply] : Array Value).size := rfl
                have HX9 : Hid _ := X9
                have HB9 : Hid _ := B9
                clear X9 B9
                go_wp2_with ((with_reducible refine st_row (ty := 50) (cs' := #[.int .i64 (kk.n 0), .int .i64 (kk.n 1), .int .i64 (kk.n 2), .int .i64 (kk.n 3), .int .i64 (kk.n 4), .int .i64 (kk.n 5), .int .i64 (kk.n 6), .int .i64 (kk.n 7), .int .i64 (kk.n 8), .int .i64 (kk.n 9), .int .i64 (kk.n 10), .string kk.reply]) X4 i1 i3 i2 hW9 ?_ ?_ ?_); rfl; rfl)
                try simp only [Exit.inBlock, Exit.then]
                refine bodyPost_ret (v := .tuple #[.agg #[.int .i64 (kk.n 0), .int .i64 (kk.n 1), .int .i64 (kk.n 2), .int .i64 (kk.n 3), .int .i64 (kk.n 4), .int .i64 (kk.n 5), .int .i64 (kk.n 6), .int .i64 (kk.n 7), .int .i64 (kk.n 8), .int .i64 (kk.n 9), .int .i64 (kk.n 10), .string kk.reply], .bool false]) (read_results HX9.out rfl rfl) rfl ?_
                exact ⟨HB9.out, Or.inr ⟨HBAD.out, kk, rfl⟩⟩
          · have hd1 : decide ((p : Int) ≤ g) = false := by simp only [decide_eq_false_iff_not]; omega
            have ep : p = g + 1 := by omega
            have HOK : Hid (okV g s = true ∧ (docK (ktR s g).1).cells.toArray = #[.int .i64 (kk.n 0), .int .i64 (kk.n 1), .int .i64 (kk.n 2), .int .i64 (kk.n 3), .int .i64 (kk.n 4), .int .i64 (kk.n 5), .int .i64 (kk.n 6), .int .i64 (kk.n 7), .int .i64 (kk.n 8), .int .i64 (kk.n 9), .int .i64 (kk.n 10), .string kk.reply]) := by
              refine ⟨?_, ?_⟩
              · rw [HIS.out.1, sound_yes hg HOKK.out (fun z hz => HP.out z (by omega)) (by rw [HTN.out.2]; exact h256) (by rw [HTN.out.2]; exact HT0.out)]
                simp
              · rw [HIS.out.2, ← docTo_all hg HOKK.out, ← ep, hkk]
                rfl
            clear ep
            have c0 : wr.cell? ⟨w.heap.size + 1, 0, none⟩ = some (.int .i64 (kk.n 0)) := HM.out.x6.cell (by rw [← hkk]; rfl)
            have c1 : wr.cell? ⟨w.heap.size + 1, 1, none⟩ = some (.int .i64 (kk.n 1)) := HM.out.x6.cell (by rw [← hkk]; rfl)
            have c2 : wr.cell? ⟨w.heap.size + 1, 2, none⟩ = some (.int .i64 (kk.n 2)) := HM.out.x6.cell (by rw [← hkk]; rfl)
            have c3 : wr.cell? ⟨w.heap.size + 1, 3, none⟩ = some (.int .i64 (kk.n 3)) := HM.out.x6.cell (by rw [← hkk]; rfl)
            have c4 : wr.cell? ⟨w.heap.size + 1, 4, none⟩ = some (.int .i64 (kk.n 4)) := HM.out.x6.cell (by rw [← hkk]; rfl)
            have c5 : wr.cell? ⟨w.heap.size + 1, 5, none⟩ = some (.int .i64 (kk.n 5)) := HM.out.x6.cell (by rw [← hkk]; rfl)
            have c6 : wr.cell? ⟨w.heap.size + 1, 6, none⟩ = some (.int .i64 (kk.n 6)) := HM.out.x6.cell (by rw [← hkk]; rfl)
            have c7 : wr.cell? ⟨w.heap.size + 1, 7, none⟩ = some (.int .i64 (kk.n 7)) := HM.out.x6.cell (by rw [← hkk]; rfl)
            have c8 : wr.cell? ⟨w.heap.size + 1, 8, none⟩ = some (.int .i64 (kk.n 8)) := HM.out.x6.cell (by rw [← hkk]; rfl)
            have c9 : wr.cell? ⟨w.heap.size + 1, 9, none⟩ = some (.int .i64 (kk.n 9)) := HM.out.x6.cell (by rw [← hkk]; rfl)
            have c10 : wr.cell? ⟨w.heap.size + 1, 10, none⟩ = some (.int .i64 (kk.n 10)) := HM.out.x6.cell (by rw [← hkk]; rfl)
            have c11 : wr.cell? ⟨w.heap.size + 1, 11, none⟩ = some (.string kk.reply) := HM.out.x6.cell (by rw [← hkk]; rfl)
            have X4 := HM.out.x4
            obtain ⟨W9, hW9, X9, B9⟩ : ∃ W9, wr.setRow w.heap.size #[.int .i64 (kk.n 0), .int .i64 (kk.n 1), .int .i64 (kk.n 2), .int .i64 (kk.n 3), .int .i64 (kk.n 4), .int .i64 (kk.n 5), .int .i64 (kk.n 6), .int .i64 (kk.n 7), .int .i64 (kk.n 8), .int .i64 (kk.n 9), .int .i64 (kk.n 10), .string kk.reply] = W9 ∧ Blk W9 w.heap.size #[.int .i64 (kk.n 0), .int .i64 (kk.n 1), .int .i64 (kk.n 2), .int .i64 (kk.n 3), .int .i64 (kk.n 4), .int .i64 (kk.n 5), .int .i64 (kk.n 6), .int .i64 (kk.n 7), .int .i64 (kk.n 8), .int .i64 (kk.n 9), .int .i64 (kk.n 10), .string kk.reply] 50 ∧ Below w.heap.size w W9 := ⟨_, rfl, Blk.setRow X4 _, below_setRow HM.out.bl _ _ (Nat.le_refl _)⟩
            have i1 : (Tryd.prog.info? 50).map (·.size) = some (#[.int .i64 (kk.n 0), .int .i64 (kk.n 1), .int .i64 (kk.n 2), .int .i64 (kk.n 3), .int .i64 (kk.n 4), .int .i64 (kk.n 5), .int .i64 (kk.n 6), .int .i64 (kk.n 7), .int .i64 (kk.n 8), .int .i64 (kk.n 9), .int .i64 (kk.n 10), .string kk.reply] : Array Value).size := infoRaS
            have i2 : (#[.int .i64 (kk.n 0), .int .i64 (kk.n 1), .int .i64 (kk.n 2), .int .i64 (kk.n 3), .int .i64 (kk.n 4), .int .i64 (kk.n 5), .int .i64 (kk.n 6), .int .i64 (kk.n 7), .int .i64 (kk.n 8), .int .i64 (kk.n 9), .int .i64 (kk.n 10), .string kk.reply] : Array Value).all (·.oneCell') = true := one12R _ _ _ _ _ _ _ _ _ _ _ _
            have i3 : (Kt.zero.cells.toArray : Array Value).size = (#[.int .i64 (kk.n 0), .int .i64 (kk.n 1), .int .i64 (kk.n 2), .int .i64 (kk.n 3), .int .i64 (kk.n 4), .int .i64 (kk.n 5), .int .i64 (kk.n 6), .int .i64 (kk.n 7), .int .i64 (kk.n 8), .int .i64 (kk.n 9), .int .i64 (kk.n 10), .string kk.reply] : Array Value).size := rfl
            have HX9 : Hid _ := X9
            have HB9 : Hid _ := B9
            clear X9 B9
            go_wp2_with ((with_reducible refine st_row (ty := 50) (cs' := #[.int .i64 (kk.n 0), .int .i64 (kk.n 1), .int .i64 (kk.n 2), .int .i64 (kk.n 3), .int .i64 (kk.n 4), .int .i64 (kk.n 5), .int .i64 (kk.n 6), .int .i64 (kk.n 7), .int .i64 (kk.n 8), .int .i64 (kk.n 9), .int .i64 (kk.n 10), .string kk.reply]) X4 i1 i3 i2 hW9 ?_ ?_ ?_); rfl; rfl)
            try simp only [Exit.inBlock, Exit.then]
            refine bodyPost_ret (v := .tuple #[.agg #[.int .i64 (kk.n 0), .int .i64 (kk.n 1), .int .i64 (kk.n 2), .int .i64 (kk.n 3), .int .i64 (kk.n 4), .int .i64 (kk.n 5), .int .i64 (kk.n 6), .int .i64 (kk.n 7), .int .i64 (kk.n 8), .int .i64 (kk.n 9), .int .i64 (kk.n 10), .string kk.reply], .bool true]) (read_results HX9.out rfl rfl) rfl ?_
            exact ⟨HB9.out, Or.inl ⟨HOK.out.1, by rw [HOK.out.2]⟩⟩
      · have hb6 : (m0 == 0) = false := by simpa using hz0
        have HT0 : Hid (k0.n 10 = 0 → t.toList = []) := fun e => by
          rw [HTN.out.1, HM0.out] at e
          exact absurd e hz0
        clear hz
        have e10 : wr.cell? ⟨w.heap.size + 1, 10, none⟩ = some (.int .i64 (kk.n 10)) := HM.out.x6.cell (by rw [← hkk]; rfl)
        have f10 : wr.frozen? ⟨w.heap.size + 1, 10, none⟩ = false := HM.out.x6.frozen
        have HM5 : Hid (Rd2 w ((wr.setCell ⟨w.heap.size + 1, 10, none⟩ (.int .i64 m0)).setCell ⟨w.heap.size + 1, 11, none⟩ (.string t)) (docTo k0 0) q ms) := by
          refine ((HM.out.set (j := 10) (by omega) m0).setT t).congr ?_
          obtain ⟨h1, h2⟩ := HTN.out
          rw [← hkk]
          refine kt_ext (fun f hf => ?_) h2.symm
          show (if f = 10 then m0 else 0) = if f < 0 then k0.n (apf f) - k0.n (hpf f) else if 5 ≤ f ∧ f < 5 + 0 then k0.n (hpf (f - 5)) else if f = 10 then k0.n 10 else 0
          rw [if_neg (Nat.not_lt_zero f), if_neg (show ¬ (5 ≤ f ∧ f < 5 + 0) by omega), h1, HM0.out]
        have e11 : (wr.setCell ⟨w.heap.size + 1, 10, none⟩ (.int .i64 m0)).cell? ⟨w.heap.size + 1, 11, none⟩ = some (.string ⟨#[]⟩) := (HM.out.set (j := 10) (by omega) m0).x6.cell (by rw [← hkk]; rfl)
        have f11 : (wr.setCell ⟨w.heap.size + 1, 10, none⟩ (.int .i64 m0)).frozen? ⟨w.heap.size + 1, 11, none⟩ = false := (HM.out.set (j := 10) (by omega) m0).x6.frozen
        clear hkk HM
        go_wp2_with fail
        refine Calls.mono (HT.out _) ?_
        rintro e w2 ⟨rfl, rfl⟩
        simp only [gotT]
        go_wp2_with fail
        clear e10 f10 e11 f11 HT
        go_loopw [15] (fun i wr => ∃ p : Nat, p ≤ g + 1 ∧ i = .int .i64 p ∧ Hid (∀ z, z < p → k0.n (hpf z) ≤ k0.n (apf z)) ∧ Hid (Rd2 w wr (docTo k0 p) q ms)) (fun i _ => 6 - (intOf i).toNat)
        case atStart => exact ⟨0, by omega, rfl, fun z hz => by omega, HM5⟩
        case round =>
          clear HM5
          obtain ⟨p, hp, rfl, HP, HM⟩ := hrel
          obtain ⟨kk, hkk⟩ : ∃ kk, docTo k0 p = kk := ⟨_, rfl⟩
          rw [hkk] at HM
          by_cases hpg : p ≤ g
          · have hd1 : decide ((p : Int) ≤ g) = true := by simp only [decide_eq_true_eq]; omega
            obtain ⟨q1, q2, _⟩ := HPT.out p hpg
            have cc1 : wr.cell? ⟨q, 1, none⟩ = some (.int .i64 (ms.getD 1 0)) := HM.out.cs 1 (by rw [HLN.out]; omega)
            have cc2 : wr.cell? ⟨q, 2, none⟩ = some (.int .i64 (ms.getD 2 0)) := HM.out.cs 2 (by rw [HLN.out]; omega)
            have n0 := HOKK.out.num (apf p) (by unfold apf; split <;> omega)
            have n1 := HOKK.out.num (hpf p) (by unfold hpf; split <;> omega)
            obtain ⟨va, hva⟩ : ∃ va, k0.n (apf p) = va := ⟨_, rfl⟩
            obtain ⟨vb, hvb⟩ : ∃ vb, k0.n (hpf p) = vb := ⟨_, rfl⟩
            rw [hva] at q1 n0
            rw [hvb] at q2 n1
            have HV : Hid (k0.n (apf p) = va ∧ k0.n (hpf p) = vb) := ⟨hva, hvb⟩
            have hws : IntKind.i64.wrap (va - vb) = va - vb := by rw [IntKind.wrap_i64]; omega
            clear hva hvb n0 n1 hp
            by_cases hp0 : p = 0
            · subst hp0
              rw [if_pos rfl] at q1 q2
              rw [← q1] at cc1
              rw [← q2] at cc2
              clear q1 q2
              go_wp2_with fail
              go_quiet (fail)
              have HN : Hid (Rd2 w (wr.drewN nq) kk q ms) := HM.out.drewN nq
              clear HM cc1 cc2
              generalize wr.drewN nq = wx at *
              by_cases hba : vb ≤ va
              · have hgt : decide (va < vb) = false := decide_eq_false (by omega)
                have hgt2 : decide (vb > va) = false := hgt
                have ep : wx.cell? ⟨w.heap.size + 1, 0, none⟩ = some (.int .i64 (kk.n 0)) := HN.out.x6.cell (by rw [List.getElem?_toArray]; exact Kt.num kk 0 (by omega))
                have fp : wx.frozen? ⟨w.heap.size + 1, 0, none⟩ = false := HN.out.x6.frozen
                have HMs : Hid _ := HN.out.set (j := 0) (by omega) (va - vb)
                have ep5 : (wx.setCell ⟨w.heap.size + 1, 0, none⟩ (.int .i64 (va - vb))).cell? ⟨w.heap.size + 1, 5, none⟩ = some (.int .i64 ((kk.put 0 (va - vb)).n (5))) := HMs.out.x6.cell (by rw [List.getElem?_toArray]; exact Kt.num _ (5) (by omega))
                have fp5 : (wx.setCell ⟨w.heap.size + 1, 0, none⟩ (.int .i64 (va - vb))).frozen? ⟨w.heap.size + 1, 5, none⟩ = false := HMs.out.x6.frozen
                have HMf : Hid (Rd2 w ((wx.setCell ⟨w.heap.size + 1, 0, none⟩ (.int .i64 (va - vb))).setCell ⟨w.heap.size + 1, 5, none⟩ (.int .i64 vb)) (docTo k0 (0 + 1)) q ms) := by
                  refine (HMs.out.set (j := 5) (by omega) vb).congr ?_
                  have e := docTo_step k0 (p := 0) (by omega)
                  rw [HV.out.1, HV.out.2, hkk] at e
                  exact e
                have HPf : Hid (∀ z, z < 0 + 1 → k0.n (hpf z) ≤ k0.n (apf z)) := fun z hz => by
                  by_cases e : z = 0
                  · rw [e, HV.out.1, HV.out.2]; exact hba
                  · exact HP.out z (by omega)
                clear hba HMs HN HP hkk
                go_wp2_with fail
                exact ⟨⟨0 + 1, by omega, by norm_cast, HPf, HMf⟩, by simp [intOf] <;> omega⟩
              · have hbad : okV g s = false := by
                  rw [HIS.out.1]
                  cases hs0 : soundB k0
                  · simp
                  · have := sound_part hs0 (p := 0) (by omega)
                    rw [HV.out.1, HV.out.2] at this
                    exact absurd this hba
                have HBAD : Hid _ := hbad
                have hgt : decide (va < vb) = true := decide_eq_true (by omega)
                have hgt2 : decide (vb > va) = true := hgt
                clear hbad hba
                have c0 : wx.cell? ⟨w.heap.size + 1, 0, none⟩ = some (.int .i64 (kk.n 0)) := HN.out.x6.cell (by rw [← hkk]; rfl)
                have c1 : wx.cell? ⟨w.heap.size + 1, 1, none⟩ = some (.int .i64 (kk.n 1)) := HN.out.x6.cell (by rw [← hkk]; rfl)
                have c2 : wx.cell? ⟨w.heap.size + 1, 2, none⟩ = some (.int .i64 (kk.n 2)) := HN.out.x6.cell (by rw [← hkk]; rfl)
                have c3 : wx.cell? ⟨w.heap.size + 1, 3, none⟩ = some (.int .i64 (kk.n 3)) := HN.out.x6.cell (by rw [← hkk]; rfl)
                have c4 : wx.cell? ⟨w.heap.size + 1, 4, none⟩ = some (.int .i64 (kk.n 4)) := HN.out.x6.cell (by rw [← hkk]; rfl)
                have c5 : wx.cell? ⟨w.heap.size + 1, 5, none⟩ = some (.int .i64 (kk.n 5)) := HN.out.x6.cell (by rw [← hkk]; rfl)
                have c6 : wx.cell? ⟨w.heap.size + 1, 6, none⟩ = some (.int .i64 (kk.n 6)) := HN.out.x6.cell (by rw [← hkk]; rfl)
                have c7 : wx.cell? ⟨w.heap.size + 1, 7, none⟩ = some (.int .i64 (kk.n 7)) := HN.out.x6.cell (by rw [← hkk]; rfl)
                have c8 : wx.cell? ⟨w.heap.size + 1, 8, none⟩ = some (.int .i64 (kk.n 8)) := HN.out.x6.cell (by rw [← hkk]; rfl)
                have c9 : wx.cell? ⟨w.heap.size + 1, 9, none⟩ = some (.int .i64 (kk.n 9)) := HN.out.x6.cell (by rw [← hkk]; rfl)
                have c10 : wx.cell? ⟨w.heap.size + 1, 10, none⟩ = some (.int .i64 (kk.n 10)) := HN.out.x6.cell (by rw [← hkk]; rfl)
                have c11 : wx.cell? ⟨w.heap.size + 1, 11, none⟩ = some (.string kk.reply) := HN.out.x6.cell (by rw [← hkk]; rfl)
                have X4 := HN.out.x4
                obtain ⟨W9, hW9, X9, B9⟩ : ∃ W9, wx.setRow w.heap.size #[.int .i64 (kk.n 0), .int .i64 (kk.n 1), .int .i64 (kk.n 2), .int .i64 (kk.n 3), .int .i64 (kk.n 4), .int .i64 (kk.n 5), .int .i64 (kk.n 6), .int .i64 (kk.n 7), .int .i64 (kk.n 8), .int .i64 (kk.n 9), .int .i64 (kk.n 10), .string kk.reply] = W9 ∧ Blk W9 w.heap.size #[.int .i64 (kk.n 0), .int .i64 (kk.n 1), .int .i64 (kk.n 2), .int .i64 (kk.n 3), .int .i64 (kk.n 4), .int .i64 (kk.n 5), .int .i64 (kk.n 6), .int .i64 (kk.n 7), .int .i64 (kk.n 8), .int .i64 (kk.n 9), .int .i64 (kk.n 10), .string kk.reply] 50 ∧ Below w.heap.size w W9 := ⟨_, rfl, Blk.setRow X4 _, below_setRow HN.out.bl _ _ (Nat.le_refl _)⟩
                have i1 : (Tryd.prog.info? 50).map (·.size) = some (#[.int .i64 (kk.n 0), .int .i64 (kk.n 1), .int .i64 (kk.n 2), .int .i64 (kk.n 3), .int .i64 (kk.n 4), .int .i64 (kk.n 5), .int .i64 (kk.n 6), .int .i64 (kk.n 7), .int .i64 (kk.n 8), .int .i64 (kk.n 9), .int .i64 (kk.n 10), .string kk.reply] : Array Value).size := infoRaS
                have i2 : (#[.int .i64 (kk.n 0), .int .i64 (kk.n 1), .int .i64 (kk.n 2), .int .i64 (kk.n 3), .int .i64 (kk.n 4), .int .i64 (kk.n 5), .int .i64 (kk.n 6), .int .i64 (kk.n 7), .int .i64 (kk.n 8), .int .i64 (kk.n 9), .int .i64 (kk.n 10), .string kk.reply] : Array Value).all (·.oneCell') = true := one12R _ _ _ _ _ _ _ _ _ _ _ _
                have i3 : (Kt.zero.cells.toArray : Array Value).size = (#[.int .i64 (kk.n 0), .int .i64 (kk.n 1), .int .i64 (kk.n 2), .int .i64 (kk.n 3), .int .i64 (kk.n 4), .int .i64 (kk.n 5), .int .i64 (kk.n 6), .int .i64 (kk.n 7), .int .i64 (kk.n 8), .int .i64 (kk.n 9), .int .i64 (kk.n 10), .string kk.reply] : Array Value).size := rfl
                have HX9 : Hid _ := X9
                have HB9 : Hid _ := B9
                clear X9 B9
                go_wp2_with ((with_reducible refine st_row (ty := 50) (cs' := #[.int .i64 (kk.n 0), .int .i64 (kk.n 1), .int .i64 (kk.n 2), .int .i64 (kk.n 3), .int .i64 (kk.n 4), .int .i64 (kk.n 5), .int .i64 (kk.n 6), .int .i64 (kk.n 7), .int .i64 (kk.n 8), .int .i64 (kk.n 9), .int .i64 (kk.n 10), .string kk.reply]) X4 i1 i3 i2 hW9 ?_ ?_ ?_); rfl; rfl)
                try simp only [Exit.inBlock, Exit.then]
                refine bodyPost_ret (v := .tuple #[.agg #[.int .i64 (kk.n 0), .int .i64 (kk.n 1), .int .i64 (kk.n 2), .int .i64 (kk.n 3), .int .i64 (kk.n 4), .int .i64 (kk.n 5), .int .i64 (kk.n 6), .int .i64 (kk.n 7), .int .i64 (kk.n 8), .int .i64 (kk.n 9), .int .i64 (kk.n 10), .string kk.reply], .bool false]) (read_results HX9.out rfl rfl) rfl ?_
                exact ⟨HB9.out, Or.inr ⟨HBAD.out, kk, rfl⟩⟩
            · rw [if_neg hp0] at q1 q2
              go_wp2_with fail
              go_quiet (fail)
              have HN : Hid (Rd2 w (wr.drewN nq) kk q ms) := HM.out.drewN nq
              clear HM cc1 cc2
              generalize wr.drewN nq = wy at *
              have cc3 : wy.cell? ⟨q, 2 + p, none⟩ = some (.int .i64 va) := by rw [q1]; exact HN.out.cs (2 + p) (by rw [HLN.out]; omega)
              have cc4 : wy.cell? ⟨q, 2 + g + p, none⟩ = some (.int .i64 vb) := by rw [q2]; exact HN.out.cs (2 + g + p) (by rw [HLN.out]; omega)
              have hw3 : IntKind.i64.wrap (2 + (p : Int)) = 2 + p := by rw [IntKind.wrap_i64]; omega
              have hw4 : IntKind.i64.wrap (2 + (g : Int)) = 2 + g := by rw [IntKind.wrap_i64]; omega
              have hw5 : IntKind.i64.wrap (2 + (g : Int) + p) = 2 + g + p := by rw [IntKind.wrap_i64]; omega
              have ht3 : (2 + (p : Int)).toNat = 2 + p := by omega
              have ht4 : (2 + (g : Int) + p).toNat = 2 + g + p := by omega
              have hpos : decide ((p : Int) > 0) = true := decide_eq_true (by omega)
              have hpos2 : decide (0 < (p : Int)) = true := decide_eq_true (by omega)
              clear q1 q2
              go_wp2_with fail
              go_quiet (fail)
              have HN2 : Hid (Rd2 w (wy.drewN nq) kk q ms) := HN.out.drewN nq
              clear HN cc3 cc4 hw3 hw4 hw5 ht3 ht4
              have HN := HN2
              clear HN2
              generalize wy.drewN nq = wx at *
              by_cases hba : vb ≤ va
              · have hgt : decide (va < vb) = false := decide_eq_false (by omega)
                have hgt2 : decide (vb > va) = false := hgt
                have ep : wx.cell? ⟨w.heap.size + 1, p, none⟩ = some (.int .i64 (kk.n p)) := HN.out.x6.cell (by rw [List.getElem?_toArray]; exact Kt.num kk p (by omega))
                have fp : wx.frozen? ⟨w.heap.size + 1, p, none⟩ = false := HN.out.x6.frozen
                have HMs : Hid _ := HN.out.set (j := p) (by omega) (va - vb)
                have ep5 : (wx.setCell ⟨w.heap.size + 1, p, none⟩ (.int .i64 (va - vb))).cell? ⟨w.heap.size + 1, 5 + p, none⟩ = some (.int .i64 ((kk.put p (va - vb)).n (5 + p))) := HMs.out.x6.cell (by rw [List.getElem?_toArray]; exact Kt.num _ (5 + p) (by omega))
                have fp5 : (wx.setCell ⟨w.heap.size + 1, p, none⟩ (.int .i64 (va - vb))).frozen? ⟨w.heap.size + 1, 5 + p, none⟩ = false := HMs.out.x6.frozen
                have HMf : Hid (Rd2 w ((wx.setCell ⟨w.heap.size + 1, p, none⟩ (.int .i64 (va - vb))).setCell ⟨w.heap.size + 1, 5 + p, none⟩ (.int .i64 vb)) (docTo k0 (p + 1)) q ms) := by
                  refine (HMs.out.set (j := 5 + p) (by omega) vb).congr ?_
                  have e := docTo_step k0 (p := p) (by omega)
                  rw [HV.out.1, HV.out.2, hkk] at e
                  exact e
                have HPf : Hid (∀ z, z < p + 1 → k0.n (hpf z) ≤ k0.n (apf z)) := fun z hz => by
                  by_cases e : z = p
                  · rw [e, HV.out.1, HV.out.2]; exact hba
                  · exact HP.out z (by omega)
                clear hba HMs HN HP hkk
                go_wp2_with fail
                exact ⟨⟨p + 1, by omega, by norm_cast, HPf, HMf⟩, by simp [intOf] <;> omega⟩
              · have hbad : okV g s = false := by
                  rw [HIS.out.1]
                  cases hs0 : soundB k0
                  · simp
                  · have := sound_part hs0 (p := p) (by omega)
                    rw [HV.out.1, HV.out.2] at this
                    exact absurd this hba
                have HBAD : Hid _ := hbad
                have hgt : decide (va < vb) = true := decide_eq_true (by omega)
                have hgt2 : decide (vb > va) = true := hgt
                clear hbad hba
                have c0 : wx.cell? ⟨w.heap.size + 1, 0, none⟩ = some (.int .i64 (kk.n 0)) := HN.out.x6.cell (by rw [← hkk]; rfl)
                have c1 : wx.cell? ⟨w.heap.size + 1, 1, none⟩ = some (.int .i64 (kk.n 1)) := HN.out.x6.cell (by rw [← hkk]; rfl)
                have c2 : wx.cell? ⟨w.heap.size + 1, 2, none⟩ = some (.int .i64 (kk.n 2)) := HN.out.x6.cell (by rw [← hkk]; rfl)
                have c3 : wx.cell? ⟨w.heap.size + 1, 3, none⟩ = some (.int .i64 (kk.n 3)) := HN.out.x6.cell (by rw [← hkk]; rfl)
                have c4 : wx.cell? ⟨w.heap.size + 1, 4, none⟩ = some (.int .i64 (kk.n 4)) := HN.out.x6.cell (by rw [← hkk]; rfl)
                have c5 : wx.cell? ⟨w.heap.size + 1, 5, none⟩ = some (.int .i64 (kk.n 5)) := HN.out.x6.cell (by rw [← hkk]; rfl)
                have c6 : wx.cell? ⟨w.heap.size + 1, 6, none⟩ = some (.int .i64 (kk.n 6)) := HN.out.x6.cell (by rw [← hkk]; rfl)
                have c7 : wx.cell? ⟨w.heap.size + 1, 7, none⟩ = some (.int .i64 (kk.n 7)) := HN.out.x6.cell (by rw [← hkk]; rfl)
                have c8 : wx.cell? ⟨w.heap.size + 1, 8, none⟩ = some (.int .i64 (kk.n 8)) := HN.out.x6.cell (by rw [← hkk]; rfl)
                have c9 : wx.cell? ⟨w.heap.size + 1, 9, none⟩ = some (.int .i64 (kk.n 9)) := HN.out.x6.cell (by rw [← hkk]; rfl)
                have c10 : wx.cell? ⟨w.heap.size + 1, 10, none⟩ = some (.int .i64 (kk.n 10)) := HN.out.x6.cell (by rw [← hkk]; rfl)
                have c11 : wx.cell? ⟨w.heap.size + 1, 11, none⟩ = some (.string kk.reply) := HN.out.x6.cell (by rw [← hkk]; rfl)
                have X4 := HN.out.x4
                obtain ⟨W9, hW9, X9, B9⟩ : ∃ W9, wx.setRow w.heap.size #[.int .i64 (kk.n 0), .int .i64 (kk.n 1), .int .i64 (kk.n 2), .int .i64 (kk.n 3), .int .i64 (kk.n 4), .int .i64 (kk.n 5), .int .i64 (kk.n 6), .int .i64 (kk.n 7), .int .i64 (kk.n 8), .int .i64 (kk.n 9), .int .i64 (kk.n 10), .string kk.reply] = W9 ∧ Blk W9 w.heap.size #[.int .i64 (kk.n 0), .int .i64 (kk.n 1), .int .i64 (kk.n 2), .int .i64 (kk.n 3), .int .i64 (kk.n 4), .int .i64 (kk.n 5), .int .i64 (kk.n 6), .int .i64 (kk.n 7), .int .i64 (kk.n 8), .int .i64 (kk.n 9), .int .i64 (kk.n 10), .string kk.reply] 50 ∧ Below w.heap.size w W9 := ⟨_, rfl, Blk.setRow X4 _, below_setRow HN.out.bl _ _ (Nat.le_refl _)⟩
                have i1 : (Tryd.prog.info? 50).map (·.size) = some (#[.int .i64 (kk.n 0), .int .i64 (kk.n 1), .int .i64 (kk.n 2), .int .i64 (kk.n 3), .int .i64 (kk.n 4), .int .i64 (kk.n 5), .int .i64 (kk.n 6), .int .i64 (kk.n 7), .int .i64 (kk.n 8), .int .i64 (kk.n 9), .int .i64 (kk.n 10), .string kk.reply] : Array Value).size := infoRaS
                have i2 : (#[.int .i64 (kk.n 0), .int .i64 (kk.n 1), .int .i64 (kk.n 2), .int .i64 (kk.n 3), .int .i64 (kk.n 4), .int .i64 (kk.n 5), .int .i64 (kk.n 6), .int .i64 (kk.n 7), .int .i64 (kk.n 8), .int .i64 (kk.n 9), .int .i64 (kk.n 10), .string kk.reply] : Array Value).all (·.oneCell') = true := one12R _ _ _ _ _ _ _ _ _ _ _ _
                have i3 : (Kt.zero.cells.toArray : Array Value).size = (#[.int .i64 (kk.n 0), .int .i64 (kk.n 1), .int .i64 (kk.n 2), .int .i64 (kk.n 3), .int .i64 (kk.n 4), .int .i64 (kk.n 5), .int .i64 (kk.n 6), .int .i64 (kk.n 7), .int .i64 (kk.n 8), .int .i64 (kk.n 9), .int .i64 (kk.n 10), .string kk.reply] : Array Value).size := rfl
                have HX9 : Hid _ := X9
                have HB9 : Hid _ := B9
                clear X9 B9
                go_wp2_with ((with_reducible refine st_row (ty := 50) (cs' := #[.int .i64 (kk.n 0), .int .i64 (kk.n 1), .int .i64 (kk.n 2), .int .i64 (kk.n 3), .int .i64 (kk.n 4), .int .i64 (kk.n 5), .int .i64 (kk.n 6), .int .i64 (kk.n 7), .int .i64 (kk.n 8), .int .i64 (kk.n 9), .int .i64 (kk.n 10), .string kk.reply]) X4 i1 i3 i2 hW9 ?_ ?_ ?_); rfl; rfl)
                try simp only [Exit.inBlock, Exit.then]
                refine bodyPost_ret (v := .tuple #[.agg #[.int .i64 (kk.n 0), .int .i64 (kk.n 1), .int .i64 (kk.n 2), .int .i64 (kk.n 3), .int .i64 (kk.n 4), .int .i64 (kk.n 5), .int .i64 (kk.n 6), .int .i64 (kk.n 7), .int .i64 (kk.n 8), .int .i64 (kk.n 9), .int .i64 (kk.n 10), .string kk.reply], .bool false]) (read_results HX9.out rfl rfl) rfl ?_
                exact ⟨HB9.out, Or.inr ⟨HBAD.out, kk, rfl⟩⟩
          · have hd1 : decide ((p : Int) ≤ g) = false := by simp only [decide_eq_false_iff_not]; omega
            have ep : p = g + 1 := by omega
            have HOK : Hid (okV g s = true ∧ (docK (ktR s g).1).cells.toArray = #[.int .i64 (kk.n 0), .int .i64 (kk.n 1), .int .i64 (kk.n 2), .int .i64 (kk.n 3), .int .i64 (kk.n 4), .int .i64 (kk.n 5), .int .i64 (kk.n 6), .int .i64 (kk.n 7), .int .i64 (kk.n 8), .int .i64 (kk.n 9), .int .i64 (kk.n 10), .string kk.reply]) := by
              refine ⟨?_, ?_⟩
              · rw [HIS.out.1, sound_yes hg HOKK.out (fun z hz => HP.out z (by omega)) (by rw [HTN.out.2]; exact h256) (by rw [HTN.out.2]; exact HT0.out)]
                simp
              · rw [HIS.out.2, ← docTo_all hg HOKK.out, ← ep, hkk]
                rfl
            clear ep
            have c0 : wr.cell? ⟨w.heap.size + 1, 0, none⟩ = some (.int .i64 (kk.n 0)) := HM.out.x6.cell (by rw [← hkk]; rfl)
            have c1 : wr.cell? ⟨w.heap.size + 1, 1, none⟩ = some (.int .i64 (kk.n 1)) := HM.out.x6.cell (by rw [← hkk]; rfl)
            have c2 : wr.cell? ⟨w.heap.size + 1, 2, none⟩ = some (.int .i64 (kk.n 2)) := HM.out.x6.cell (by rw [← hkk]; rfl)
            have c3 : wr.cell? ⟨w.heap.size + 1, 3, none⟩ = some (.int .i64 (kk.n 3)) := HM.out.x6.cell (by rw [← hkk]; rfl)
            have c4 : wr.cell? ⟨w.heap.size + 1, 4, none⟩ = some (.int .i64 (kk.n 4)) := HM.out.x6.cell (by rw [← hkk]; rfl)
            have c5 : wr.cell? ⟨w.heap.size + 1, 5, none⟩ = some (.int .i64 (kk.n 5)) := HM.out.x6.cell (by rw [← hkk]; rfl)
            have c6 : wr.cell? ⟨w.heap.size + 1, 6, none⟩ = some (.int .i64 (kk.n 6)) := HM.out.x6.cell (by rw [← hkk]; rfl)
            have c7 : wr.cell? ⟨w.heap.size + 1, 7, none⟩ = some (.int .i64 (kk.n 7)) := HM.out.x6.cell (by rw [← hkk]; rfl)
            have c8 : wr.cell? ⟨w.heap.size + 1, 8, none⟩ = some (.int .i64 (kk.n 8)) := HM.out.x6.cell (by rw [← hkk]; rfl)
            have c9 : wr.cell? ⟨w.heap.size + 1, 9, none⟩ = some (.int .i64 (kk.n 9)) := HM.out.x6.cell (by rw [← hkk]; rfl)
            have c10 : wr.cell? ⟨w.heap.size + 1, 10, none⟩ = some (.int .i64 (kk.n 10)) := HM.out.x6.cell (by rw [← hkk]; rfl)
            have c11 : wr.cell? ⟨w.heap.size + 1, 11, none⟩ = some (.string kk.reply) := HM.out.x6.cell (by rw [← hkk]; rfl)
            have X4 := HM.out.x4
            obtain ⟨W9, hW9, X9, B9⟩ : ∃ W9, wr.setRow w.heap.size #[.int .i64 (kk.n 0), .int .i64 (kk.n 1), .int .i64 (kk.n 2), .int .i64 (kk.n 3), .int .i64 (kk.n 4), .int .i64 (kk.n 5), .int .i64 (kk.n 6), .int .i64 (kk.n 7), .int .i64 (kk.n 8), .int .i64 (kk.n 9), .int .i64 (kk.n 10), .string kk.reply] = W9 ∧ Blk W9 w.heap.size #[.int .i64 (kk.n 0), .int .i64 (kk.n 1), .int .i64 (kk.n 2), .int .i64 (kk.n 3), .int .i64 (kk.n 4), .int .i64 (kk.n 5), .int .i64 (kk.n 6), .int .i64 (kk.n 7), .int .i64 (kk.n 8), .int .i64 (kk.n 9), .int .i64 (kk.n 10), .string kk.reply] 50 ∧ Below w.heap.size w W9 := ⟨_, rfl, Blk.setRow X4 _, below_setRow HM.out.bl _ _ (Nat.le_refl _)⟩
            have i1 : (Tryd.prog.info? 50).map (·.size) = some (#[.int .i64 (kk.n 0), .int .i64 (kk.n 1), .int .i64 (kk.n 2), .int .i64 (kk.n 3), .int .i64 (kk.n 4), .int .i64 (kk.n 5), .int .i64 (kk.n 6), .int .i64 (kk.n 7), .int .i64 (kk.n 8), .int .i64 (kk.n 9), .int .i64 (kk.n 10), .string kk.reply] : Array Value).size := infoRaS
            have i2 : (#[.int .i64 (kk.n 0), .int .i64 (kk.n 1), .int .i64 (kk.n 2), .int .i64 (kk.n 3), .int .i64 (kk.n 4), .int .i64 (kk.n 5), .int .i64 (kk.n 6), .int .i64 (kk.n 7), .int .i64 (kk.n 8), .int .i64 (kk.n 9), .int .i64 (kk.n 10), .string kk.reply] : Array Value).all (·.oneCell') = true := one12R _ _ _ _ _ _ _ _ _ _ _ _
            have i3 : (Kt.zero.cells.toArray : Array Value).size = (#[.int .i64 (kk.n 0), .int .i64 (kk.n 1), .int .i64 (kk.n 2), .int .i64 (kk.n 3), .int .i64 (kk.n 4), .int .i64 (kk.n 5), .int .i64 (kk.n 6), .int .i64 (kk.n 7), .int .i64 (kk.n 8), .int .i64 (kk.n 9), .int .i64 (kk.n 10), .string kk.reply] : Array Value).size := rfl
            have HX9 : Hid _ := X9
            have HB9 : Hid _ := B9
            clear X9 B9
            go_wp2_with ((with_reducible refine st_row (ty := 50) (cs' := #[.int .i64 (kk.n 0), .int .i64 (kk.n 1), .int .i64 (kk.n 2), .int .i64 (kk.n 3), .int .i64 (kk.n 4), .int .i64 (kk.n 5), .int .i64 (kk.n 6), .int .i64 (kk.n 7), .int .i64 (kk.n 8), .int .i64 (kk.n 9), .int .i64 (kk.n 10), .string kk.reply]) X4 i1 i3 i2 hW9 ?_ ?_ ?_); rfl; rfl)
            try simp only [Exit.inBlock, Exit.then]
            refine bodyPost_ret (v := .tuple #[.agg #[.int .i64 (kk.n 0), .int .i64 (kk.n 1), .int .i64 (kk.n 2), .int .i64 (kk.n 3), .int .i64 (kk.n 4), .int .i64 (kk.n 5), .int .i64 (kk.n 6), .int .i64 (kk.n 7), .int .i64 (kk.n 8), .int .i64 (kk.n 9), .int .i64 (kk.n 10), .string kk.reply], .bool true]) (read_results HX9.out rfl rfl) rfl ?_
            exact ⟨HB9.out, Or.inl ⟨HOK.out.1, by rw [HOK.out.2]⟩⟩
end Go.Proofs.YtmcafgmjfgfaeaaDoor
