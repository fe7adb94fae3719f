/- The document's path to a record. -/
import Derived.Test.YtpcafjbebhcilaaGreatTm36
import Derived.Test.YtpcafjbebhcilaaGreatTmS
namespace Go.Proofs.YtpcafjbebhcilaaGreat
open Go.RowKit
set_option linter.unusedSimpArgs false
set_option linter.unusedVariables false

/-- Numbers in a slice. -/
def ixC (ns : List Nat) : List Value := ns.map fun n => .int .i64 (n : Nat)
def Ixs (w : World) (base : Nat) (v : Value) (ns : List Nat) : Prop := w.ownsRow base 3 1 v ns.length (ixC ns)
/-- Which records show a key that stands, or would stand, at r. -/
def shownI (l : List Rc) (r : Nat) (key : ByteArray) : List Nat := if hasAt l r key = true then [r] else if l.length = 0 then [] else if r = 0 then [0] else if r = l.length then [r - 1] else [r - 1, r]
theorem ixs_one {w w' : World} {n : Nat} (X : Blk w' w.heap.size #[.int .i64 n] 3) : Ixs w' w.heap.size (.slice (some ⟨w.heap.size, 0, none⟩) 1 1) [n] :=
  ⟨rfl, Or.inr ⟨w.heap.size, 1, _, rfl, Nat.le_refl _, X, by simp, by unfold maxLen; omega, rfl, rfl⟩⟩
theorem ixs_two {w w' : World} {n m : Nat} (X : Blk w' w.heap.size #[.int .i64 n, .int .i64 m] 3) : Ixs w' w.heap.size (.slice (some ⟨w.heap.size, 0, none⟩) 2 2) [n, m] :=
  ⟨rfl, Or.inr ⟨w.heap.size, 2, _, rfl, Nat.le_refl _, X, by simp, by unfold maxLen; omega, rfl, rfl⟩⟩
set_option maxHeartbeats 4000000 in
set_option maxRecDepth 100000 in
theorem shown_calls (v : Value) (l : List Rc) (key : ByteArray) (r : Nat) (w : World) (h : Rcs w v l) (hl : l.length ≤ 4096) (hri : Rising l) (hs : Spot l key r) :
    Calls Tryz.prog 40 #[v, .string key] w fun e w' => ∃ v', e = .returned v' ∧ Ixs w' w.heap.size v' (shownI l r key) ∧ Below w.heap.size w w' := by
  obtain ⟨a, cap, rfl⟩ := h.len
  have hrl := hs.le
  have HS : Hid _ := hs
  have HRI : Hid _ := hri
  have HH : Hid _ := h
  clear h hs hri
  go_enter Tryz.func40, Tryz.ntmps40
  go_wp2_with fail
  go_loopw [5, 6] (fun bv iv wr => ∃ k bn : Nat, k ≤ l.length ∧ iv = .int .i64 k ∧ bv = .int .i64 bn ∧ Hid (bn = min k r) ∧ Hid (hasAt l r key = true → k ≤ r) ∧ bn ≤ 4096 ∧ wr = w) (fun _ iv _ => l.length - (intOf iv).toNat)
  case atStart => exact ⟨0, 0, Nat.zero_le _, rfl, rfl, (Nat.zero_min _).symm, fun _ => Nat.zero_le _, by omega, rfl⟩
  case round =>
    obtain ⟨k, bn, hk, rfl, rfl, hbn, hha, hb4, rfl⟩ := hrel
    by_cases hlt : k < l.length
    · have hd : decide ((k : Int) < (l.length : Int)) = true := by simp only [decide_eq_true_eq]; omega
      obtain ⟨g, off, rfl, m0⟩ : ∃ g off, a = some ⟨g, off, none⟩ ∧ wr.cell? ⟨g, off + k * 2, none⟩ = some (.string l[k].key) := by
        rcases HH.out with ⟨_, h0⟩ | ⟨g, off, c, e, hx⟩
        · rw [h0] at hlt; simp at hlt
        · simp only [Value.slice.injEq] at e
          exact ⟨g, off, e.1, (hx k hlt).1⟩
      have hg : l[k]? = some l[k] := List.getElem?_eq_getElem hlt
      have hcase : (l[k].key = key ∧ hasAt l r key = true ∧ k = r) ∨ (l[k].key ≠ key ∧ lsB l[k].key key = true ∧ k < r) ∨ (l[k].key ≠ key ∧ lsB l[k].key key = false ∧ r ≤ k ∧ hasAt l r key = false) := by
        rcases Nat.lt_trichotomy k r with hkr | rfl | hkr
        · have h1 := HS.out.lo k hlt hkr
          exact Or.inr (Or.inl ⟨lsB_ne h1, h1, hkr⟩)
        · have h1 := HS.out.hi k hlt (Nat.le_refl _)
          by_cases he : l[k].key = key
          · exact Or.inl ⟨he, by unfold hasAt; rw [hg]; exact decide_eq_true he, rfl⟩
          · exact Or.inr (Or.inr ⟨he, h1, Nat.le_refl _, by unfold hasAt; rw [hg]; exact decide_eq_false he⟩)
        · have h1 := HS.out.hi k hlt (by omega)
          have h2 := HS.out.hi r (by omega) (Nat.le_refl _)
          have h3 := HRI.out r k hkr hlt
          refine Or.inr (Or.inr ⟨fun e => ?_, h1, by omega, ?_⟩)
          · rw [e, h2] at h3; cases h3
          · cases hq : hasAt l r key
            · rfl
            · have := hha.out hq; omega
      generalize l[k] = m at *
      clear hg HRI
      rcases hcase with ⟨c1, c2, c3⟩ | ⟨c1, c2, c3⟩ | ⟨c1, c2, c3, c4⟩
      · have d1 : (m.key.toList == key.toList) = true := by rw [strEq]; exact decide_eq_true c1
        obtain ⟨W1, hW1, X1, B1⟩ : ∃ W1, wr.alloc (.cells #[.int .i64 k] 3) = W1 ∧ Blk W1 wr.heap.size #[.int .i64 k] 3 ∧ Below wr.heap.size wr W1 := ⟨_, rfl, blk_new _ _ _ _ rfl, by go_grown⟩
        have e : shownI l r key = [k] := by unfold shownI; rw [if_pos c2, c3]
        have HE : Hid _ := e
        clear e c2 c3 HH HS hha hbn
        go_wp2
        go_ret
        exact ⟨_, rfl, by rw [HE.out]; exact ixs_one X1, B1⟩
      · have d1 : (m.key.toList == key.toList) = false := by rw [strEq]; exact decide_eq_false c1
        have d2 : Op.bytesLess m.key.toList key.toList = true := c2
        clear HS
        go_wp2
        refine ⟨⟨k + 1, bn + 1, by omega, by norm_cast, by norm_cast, ?_, fun _ => by omega, ?_, by trivial⟩, ?_⟩
        · have := hbn.out; show bn + 1 = min (k + 1) r; omega
        · have := hbn.out; omega
        · simp [intOf]; omega
      · have d1 : (m.key.toList == key.toList) = false := by rw [strEq]; exact decide_eq_false c1
        have d2 : Op.bytesLess m.key.toList key.toList = false := c2
        clear HS
        have HC : Hid _ := c4
        clear c4
        go_wp2
        refine ⟨⟨k + 1, bn, by omega, by norm_cast, rfl, ?_, fun hq => (by rw [HC.out] at hq; cases hq), hb4, by trivial⟩, ?_⟩
        · have := hbn.out; show bn = min (k + 1) r; omega
        · simp [intOf]; omega
    · have hd : decide ((k : Int) < (l.length : Int)) = false := by simp only [decide_eq_false_iff_not]; omega
      have hh : hasAt l r key = false := by
        cases hq : hasAt l r key
        · rfl
        · have h1 := hha.out hq
          have : l.length ≤ r := by omega
          unfold hasAt at hq
          rw [List.getElem?_eq_none this] at hq
          cases hq
      have hbr : bn = r := by have := hbn.out; omega
      have e0 : shownI l r key = if l.length = 0 then [] else if r = 0 then [0] else if r = l.length then [r - 1] else [r - 1, r] := by unfold shownI; rw [if_neg (by rw [hh]; simp)]
      have HE0 : Hid _ := e0
      clear e0 hh hha hbn HH HS HRI
      subst hbr
      by_cases q0 : l.length = 0
      · have d0 : decide ((l.length : Int) = 0) = true := decide_eq_true (by omega)
        have d0' : ((l.length : Int) == 0) = true := d0
        go_wp2
        go_ret
        exact ⟨_, rfl, by rw [HE0.out, if_pos q0]; exact World.ownsRow_nil _ _ _ _, Below.refl _ _⟩
      have d0 : decide ((l.length : Int) = 0) = false := decide_eq_false (by omega)
      have d0' : ((l.length : Int) == 0) = false := d0
      by_cases q1 : bn = 0
      · have d1 : decide ((bn : Int) = 0) = true := decide_eq_true (by omega)
        have d1' : ((bn : Int) == 0) = true := d1
        obtain ⟨W1, hW1, X1, B1⟩ : ∃ W1, wr.alloc (.cells #[.int .i64 0] 3) = W1 ∧ Blk W1 wr.heap.size #[.int .i64 (0 : Nat)] 3 ∧ Below wr.heap.size wr W1 := ⟨_, rfl, blk_new _ _ _ _ rfl, by go_grown⟩
        go_wp2
        go_ret
        exact ⟨_, rfl, by rw [HE0.out, if_neg q0, if_pos q1]; exact ixs_one X1, B1⟩
      have d1 : decide ((bn : Int) = 0) = false := decide_eq_false (by omega)
      have d1' : ((bn : Int) == 0) = false := d1
      have es : (bn : Int) - 1 = ((bn - 1 : Nat) : Int) := by omega
      obtain ⟨b1, hb1⟩ : ∃ b1, bn - 1 = b1 := ⟨_, rfl⟩
      rw [hb1] at es
      by_cases q2 : bn = l.length
      · have d2 : decide ((bn : Int) = (l.length : Int)) = true := decide_eq_true (by omega)
        have d2' : ((bn : Int) == (l.length : Int)) = true := d2
        obtain ⟨W1, hW1, X1, B1⟩ : ∃ W1, wr.alloc (.cells #[.int .i64 b1] 3) = W1 ∧ Blk W1 wr.heap.size #[.int .i64 b1] 3 ∧ Below wr.heap.size wr W1 := ⟨_, rfl, blk_new _ _ _ _ rfl, by go_grown⟩
        have HB1 : Hid _ := hb1
        have HQ2 : Hid _ := q2
        clear hb1 q2
        go_wp2
        go_ret
        exact ⟨_, rfl, by rw [HE0.out, if_neg q0, if_neg q1, if_pos HQ2.out, HB1.out]; exact ixs_one X1, B1⟩
      · have d2 : decide ((bn : Int) = (l.length : Int)) = false := decide_eq_false (by omega)
        have d2' : ((bn : Int) == (l.length : Int)) = false := d2
        obtain ⟨W1, hW1, X1, B1⟩ : ∃ W1, wr.alloc (.cells #[.int .i64 b1, .int .i64 bn] 3) = W1 ∧ Blk W1 wr.heap.size #[.int .i64 b1, .int .i64 bn] 3 ∧ Below wr.heap.size wr W1 := ⟨_, rfl, blk_new _ _ _ _ rfl, by go_grown⟩
        have HB1 : Hid _ := hb1
        clear hb1
        go_wp2
        go_ret
        exact ⟨_, rfl, by rw [HE0.out, if_neg q0, if_neg q1, if_neg q2, HB1.out]; exact ixs_two X1, B1⟩
end Go.Proofs.YtpcafjbebhcilaaGreat

namespace Go.Proofs.YtpcafjbebhcilaaGreat
open Go.RowKit
set_option linter.unusedSimpArgs false
set_option linter.unusedVariables false
variable {p b x y : Nat} {T : List ByteArray} {S : List (Int × ByteArray)}

theorem pathL_results {w' : World} {c0 c1 c2 c3 : Value} {r : Nat} (X : Blk w' r #[c0, c1, c2, c3] 80) {t : Array Value} (h1 : t.getD 6 undef = .pointer (some ⟨r, 0, none⟩)) :
    (results Tryz.f41 t).run Tryz.prog w' = .ok (.agg #[c0, c1, c2, c3]) w' := by
  have a0 := X.cell (o := 0) rfl
  have a1 := X.cell (o := 1) rfl
  have a2 := X.cell (o := 2) rfl
  have a3 := X.cell (o := 3) rfl
  simp only [Array.getD_eq_getD_getElem?] at h1
  simp [results, Tryz.results41, go_sem, h1, a0, a1, a2, a3]
def zPt : Array Value := #[.int .i64 0, .string ⟨#[]⟩, .string ⟨#[]⟩, .slice none 0 0]
/-- What is kept on the way down: the sides of the part, and behind them what was met, backwards, are those of the whole. -/
def PInv (T1 ls : List ByteArray) (i f t : Nat) (D : List ByteArray) : Prop := ∀ (T' ss : List ByteArray), Ext T1 T' → Sides T' ((ls.drop f).take (t - f)) (i - f) ss → Sides T' ls i (ss ++ D.reverse)
theorem part_len {ls : List ByteArray} {f t n : Nat} (hn : t - f = n) (ht : t ≤ ls.length) (hft : f ≤ t) : ((ls.drop f).take n).length = n := by rw [List.length_take, List.length_drop]; omega
theorem part_take {ls : List ByteArray} {f n k : Nat} (hk : k ≤ n) : ((ls.drop f).take n).take k = (ls.drop f).take k := by rw [List.take_take, Nat.min_eq_left hk]
theorem part_drop {ls : List ByteArray} {f n k : Nat} : ((ls.drop f).take n).drop k = (ls.drop (f + k)).take (n - k) := by rw [List.drop_take, List.drop_drop]
theorem inv_left {T0 T1 T2 ls ls2 : List ByteArray} {l : List Rc} {i f t n kn : Nat} {D : List ByteArray} {a1 : ByteArray} (hlv : Lvs T0 l ls) (h : PInv T1 ls i f t D) (e0 : Ext T0 T1) (e2 : Ext T1 T2) (hn : t - f = n) (hkn : f + hf n = kn) (h2 : 2 ≤ n) (hf1 : f ≤ i) (hik : i < kn) (ht : t ≤ l.length) (v2 : Lvs T2 ((l.drop kn).take (n - hf n)) ls2) (t2 : Top T2 ls2 a1) : PInv T2 ls i f kn (D ++ [a1]) := by
  intro T' ss e hs
  have hb := hf_bounds h2
  have hl := hlv.len
  have e1 : kn - f = hf n := by omega
  rw [e1] at hs
  have hlen := part_len (ls := ls) hn (by omega) (by omega)
  have hsame : ls2 = (ls.drop kn).take (n - hf n) := v2.same (((hlv.ext (e0.trans e2)).drop kn).take (n - hf n))
  rw [hsame] at t2
  have key : Sides T' ((ls.drop f).take n) (i - f) (ss ++ [a1]) := by
    refine Sides.left _ _ _ _ (by rw [hlen]; exact h2) (by rw [hlen]; omega) ?_ ?_
    · rw [hlen, part_take (by omega)]; exact hs
    · rw [hlen, part_drop, hkn]; exact t2.ext e
  rw [← hn] at key
  have := h T' _ (e2.trans e) key
  rw [List.reverse_append]
  simpa using this
theorem inv_right {T0 T1 T2 ls ls2 : List ByteArray} {l : List Rc} {i f t n kn : Nat} {D : List ByteArray} {a1 : ByteArray} (hlv : Lvs T0 l ls) (h : PInv T1 ls i f t D) (e0 : Ext T0 T1) (e2 : Ext T1 T2) (hn : t - f = n) (hkn : f + hf n = kn) (h2 : 2 ≤ n) (hf1 : f ≤ i) (hik : kn ≤ i) (hit : i < t) (ht : t ≤ l.length) (v2 : Lvs T2 ((l.drop f).take (hf n)) ls2) (t2 : Top T2 ls2 a1) : PInv T2 ls i kn t (D ++ [a1]) := by
  intro T' ss e hs
  have hb := hf_bounds h2
  have hl := hlv.len
  have e1 : t - kn = n - hf n := by omega
  rw [e1] at hs
  have hlen := part_len (ls := ls) hn (by omega) (by omega)
  have hsame : ls2 = (ls.drop f).take (hf n) := v2.same (((hlv.ext (e0.trans e2)).drop f).take (hf n))
  rw [hsame] at t2
  have key : Sides T' ((ls.drop f).take n) (i - f) (ss ++ [a1]) := by
    refine Sides.right _ _ _ _ (by rw [hlen]; exact h2) (by rw [hlen]; omega) ?_ ?_
    · rw [hlen, part_drop, hkn, show i - f - hf n = i - kn by omega]; exact hs
    · rw [hlen, part_take (by omega)]; exact t2.ext e
  rw [← hn] at key
  have := h T' _ (e2.trans e) key
  rw [List.reverse_append]
  simpa using this
theorem inv_end {T0 T1 ls : List ByteArray} {l : List Rc} {i f t : Nat} {D : List ByteArray} (hlv : Lvs T0 l ls) (h : PInv T1 ls i f t D) (hf1 : f ≤ i) (hit : i < t) (hn : t - f < 2) (ht : t ≤ l.length) : Sides T1 ls i D.reverse := by
  obtain rfl : f = i := by omega
  have e1 : t - f = 1 := by omega
  have hl := hlv.len
  have hfl : f < ls.length := by omega
  have := h T1 [] (Ext.refl _) (by rw [e1, Nat.sub_self, List.drop_eq_getElem_cons hfl]; exact Sides.one _)
  simpa using this

set_option maxHeartbeats 4000000 in
set_option maxRecDepth 100000 in
theorem path_law (i : Nat) (v : Value) (l : List Rc) (ls : List ByteArray) (m : Rc) (w : World) (hr : Rcs w v l) (hl : l.length ≤ 4096) (hm : l[i]? = some m) (hz : ∀ m ∈ l, m.key.size ≤ 64 ∧ m.dat.size ≤ 4096) (hlv : Lvs T l ls) (h : Book w p b x y T S) (hT : T.length < 900000) :
    Calls Tryz.prog 41 #[.pointer (some ⟨p, 0, none⟩), v, .int .i64 i] w fun e w' => ∃ sv ss T', e = .returned (.agg #[.int .i64 i, .string m.key, .string m.dat, sv]) ∧ Sides T' ls i ss ∧ w'.ownsRow w.heap.size 9 1 sv ss.length (txC ss) ∧ Grew x y p b T S w (2 * l.length) T' w' := by
  obtain ⟨i0, hi, hi0, hi1, hi2⟩ := info_parts infoStr
  obtain ⟨hil, hmi⟩ := List.getElem?_eq_some_iff.1 hm
  obtain ⟨a, cap, rfl⟩ := hr.len
  obtain ⟨g, off, rfl, c3, c4⟩ : ∃ g off, a = some ⟨g, off, none⟩ ∧ w.cell? ⟨g, off + i * 2, none⟩ = some (.string m.key) ∧ w.cell? ⟨g, off + i * 2 + 1, none⟩ = some (.string m.dat) := by
    rcases hr with ⟨_, h0⟩ | ⟨g, off, c, e, hx⟩
    · rw [h0] at hil; simp at hil
    · simp only [Value.slice.injEq] at e
      have := hx i hil
      rw [hmi] at this
      exact ⟨g, off, e.1, this.1, this.2.1⟩
  have hil' : (i : Int) < (l.length : Int) := by omega
  have hgw := World.block_lt_of_cell? w _ c3
  obtain ⟨W1, hW1, X1, B1, Z1⟩ : ∃ W1, w.alloc (.cells #[.int .i64 0, .string ⟨#[]⟩, .string ⟨#[]⟩, .slice none 0 0] 80) = W1 ∧ Blk W1 w.heap.size zPt 80 ∧ Below w.heap.size w W1 ∧ W1.heap.size = w.heap.size + 1 :=
    ⟨_, rfl, blk_new _ _ _ _ rfl, by go_grown, by simp⟩
  have HO : Hid _ := fun (f n c : Nat) (T1 : List ByteArray) (wx : World) (hfn : f + n ≤ l.length) (G : Grew x y p b T S w c T1 wx) (hb : T1.length + 2 * n < 1000000) => over_law n f (.slice (some ⟨g, off, none⟩) l.length cap) l T1 wx hfn hl (Rcs.off2 hr h G.off) hz G.book hb
  have HGe : Hid (∀ (c : Nat) {T1 : List ByteArray} (wx : World), Grew x y p b T S w c T1 wx → Ext T T1) := fun c _ wx G => G.ext
  have HXY : Hid (w.heap.size ≠ x ∧ w.heap.size ≠ y) := by have := h.lts; exact ⟨by omega, by omega⟩
  have HLS : Hid (w.heap.size ≠ p ∧ w.heap.size ≠ b) := by have := h.lts; exact ⟨by omega, by omega⟩
  have HG0 : Hid _ := (Grew.refl h).below B1
  have HH0 : Hid _ := h
  have hll := hlv.len
  have HI0 : Hid (PInv T ls i 0 l.length []) := fun T' ss _ hs => by
    rw [List.drop_zero, Nat.sub_zero, Nat.sub_zero, ← hll, List.take_length] at hs
    simpa using hs
  clear hr hm hmi h
  go_enter Tryz.func41, Tryz.ntmps41
  go_wp2_with fail
  go_loopw [7, 8, 9] (fun dv fv tv wr => ∃ (f t : Nat) (D T1 : List ByteArray), fv = .int .i64 f ∧ tv = .int .i64 t ∧ f ≤ i ∧ i < t ∧ t ≤ l.length ∧ wr.ownsRow (w.heap.size + 1) 9 1 dv D.length (txC D) ∧ Blk wr w.heap.size zPt 80 ∧ Hid (PInv T1 ls i f t D) ∧ Grew x y p b T S w (2 * (l.length - (t - f))) T1 wr ∧ w.heap.size + 1 ≤ wr.heap.size ∧ D.length + (t - f) ≤ l.length) (fun _ fv tv _ => (intOf tv).toNat - (intOf fv).toNat)
  case atStart => exact ⟨0, l.length, [], T, rfl, rfl, by omega, hil, by omega, World.ownsRow_nil _ _ _ _, X1, HI0, HG0.out.le (by omega), by omega, by simp⟩
  case round =>
    obtain ⟨f, t, D, T1, rfl, rfl, hf1, hf2, hf3, ho, hX, hinv, G, hz1, hDl⟩ := hrel
    have gl := G.len
    by_cases hn2 : 2 ≤ t - f
    · obtain ⟨n, hnn⟩ : ∃ n, t - f = n := ⟨_, rfl⟩
      have e1 : (t : Int) - (f : Int) = (n : Int) := by omega
      have d1 : decide ((1 : Int) < (n : Int)) = true := decide_eq_true (by omega)
      obtain ⟨k1, k2⟩ := hf_bounds (n := n) (by omega)
      have HH : Hid _ := half_calls n wr (by omega) (by omega)
      obtain ⟨kn, hkn⟩ : ∃ kn : Nat, f + hf n = kn := ⟨_, rfl⟩
      have e2 : (f : Int) + (hf n : Int) = (kn : Int) := by omega
      have e3 : kn + (n - hf n) = t := by omega
      rw [hnn] at hn2
      by_cases hik : i < kn
      · have di : decide ((i : Int) < (kn : Int)) = true := decide_eq_true (by omega)
        have H1 : Hid _ := HO.out kn (n - hf n) _ T1 wr (by omega) G (by omega)
        rw [e3] at H1
        have HKN : Hid _ := hkn
        have E3 : Hid _ := e3
        have HN : Hid _ := hnn
        clear hkn e3 hnn
        go_wp2_with fail
        refine Calls.mono HH.out ?_
        rintro e w1 ⟨rfl, rfl⟩
        go_wp2_with fail
        refine Calls.mono H1.out ?_
        rintro e w2 ⟨a1, T2, ls2, rfl, v2, t2, G2⟩
        have ho2 := own_off2 G.book ho G2.off
        have hX2 : Blk w2 w.heap.size zPt 80 := hX.off2 G2.off HXY.out.1 HXY.out.2
        have zz2 := G2.off.size
        have hlt2 := hX2.lt
        go_wp2_with (at_builtin; refine wpList_append_own _ rfl _ _ 62 rfl (w.heap.size + 1) 9 i0 (.string ⟨#[]⟩) 1 16 Tryz.underlying62 hi hi0 hi1 hi2 rfl (by decide) _ _ _ rfl (ho2.alloc _) ⟨w2.heap.size, 0, none⟩ 1 1 [.string a1] rfl rfl ?c1 ?c2 ?c3 ?c4 ?c5 ?_)
        case c1 => exact cell_one_new _ _ _
        case c2 => intro u hu; simp at hu; subst hu; rfl
        case c3 => unfold maxLen; omega
        case c4 => omega
        case c5 => simp; omega
        intro v' w4 hown' hgrow _
        have hGG := ((G.trans G2).below ((Below.refl w2.heap.size w2).alloc (Nat.le_refl _) (.cells #[.string a1] 9))).grown (ho2.alloc _) (by decide) (by decide) (by omega) hgrow
        have hX4 : Blk w4 w.heap.size zPt 80 := (hgrow.block w.heap.size (by simp; omega) (fun e => by have := (ho2.lt _ e.symm).1; omega)).trans (hX2.alloc _)
        have hz4 := hgrow.size
        have l2 := v2.len
        have s4 : w.heap.size + 1 ≤ w4.heap.size := by simp at hz4; omega
        have hinv2 := inv_left hlv hinv.out (HGe.out _ _ G) G2.ext HN.out HKN.out (by omega) hf1 hik hf3 v2 t2
        have lenL : ((l.drop kn).take (n - hf n)).length = n - hf n := by rw [List.length_take, List.length_drop]; have := HKN.out; have := HN.out; omega
        have kk := HKN.out
        have nn := HN.out
        clear G2 v2 t2 H1 HH
        go_wp2
        refine ⟨⟨f, kn, D ++ [a1], T2, rfl, rfl, hf1, hik, by omega, by rw [txC_snoc, List.length_append]; exact hown', hX4, hinv2, hGG.le (by rw [lenL]; omega), s4, by rw [List.length_append]; simp; omega⟩, ?_⟩
        simp [intOf]; omega
      · have di : decide ((i : Int) < (kn : Int)) = false := decide_eq_false (by omega)
        have H1 : Hid _ := HO.out f (hf n) _ T1 wr (by omega) G (by omega)
        rw [hkn] at H1
        have HKN : Hid _ := hkn
        have E3 : Hid _ := e3
        have HN : Hid _ := hnn
        clear hkn e3 hnn
        go_wp2_with fail
        refine Calls.mono HH.out ?_
        rintro e w1 ⟨rfl, rfl⟩
        go_wp2_with fail
        refine Calls.mono H1.out ?_
        rintro e w2 ⟨a1, T2, ls2, rfl, v2, t2, G2⟩
        have ho2 := own_off2 G.book ho G2.off
        have hX2 : Blk w2 w.heap.size zPt 80 := hX.off2 G2.off HXY.out.1 HXY.out.2
        have zz2 := G2.off.size
        have hlt2 := hX2.lt
        go_wp2_with (at_builtin; refine wpList_append_own _ rfl _ _ 62 rfl (w.heap.size + 1) 9 i0 (.string ⟨#[]⟩) 1 16 Tryz.underlying62 hi hi0 hi1 hi2 rfl (by decide) _ _ _ rfl (ho2.alloc _) ⟨w2.heap.size, 0, none⟩ 1 1 [.string a1] rfl rfl ?c1 ?c2 ?c3 ?c4 ?c5 ?_)
        case c1 => exact cell_one_new _ _ _
        case c2 => intro u hu; simp at hu; subst hu; rfl
        case c3 => unfold maxLen; omega
        case c4 => omega
        case c5 => simp; omega
        intro v' w4 hown' hgrow _
        have hGG := ((G.trans G2).below ((Below.refl w2.heap.size w2).alloc (Nat.le_refl _) (.cells #[.string a1] 9))).grown (ho2.alloc _) (by decide) (by decide) (by omega) hgrow
        have hX4 : Blk w4 w.heap.size zPt 80 := (hgrow.block w.heap.size (by simp; omega) (fun e => by have := (ho2.lt _ e.symm).1; omega)).trans (hX2.alloc _)
        have hz4 := hgrow.size
        have l2 := v2.len
        have s4 : w.heap.size + 1 ≤ w4.heap.size := by simp at hz4; omega
        have hinv2 := inv_right hlv hinv.out (HGe.out _ _ G) G2.ext HN.out HKN.out (by omega) hf1 (by omega) hf2 hf3 v2 t2
        have lenL : ((l.drop f).take (hf n)).length = hf n := by rw [List.length_take, List.length_drop]; have := HKN.out; have := HN.out; omega
        have kk := HKN.out
        have nn := HN.out
        clear G2 v2 t2 H1 HH
        go_wp2
        refine ⟨⟨kn, t, D ++ [a1], T2, rfl, rfl, by omega, hf2, hf3, by rw [txC_snoc, List.length_append]; exact hown', hX4, hinv2, hGG.le (by rw [lenL]; omega), s4, by rw [List.length_append]; simp; omega⟩, ?_⟩
        simp [intOf]; omega
    · have hS := inv_end hlv hinv.out hf1 hf2 (by omega) hf3
      have HS : Hid _ := hS
      have d1 : decide ((1 : Int) < (t : Int) - (f : Int)) = false := decide_eq_false (by omega)
      clear hS hinv
      obtain ⟨pd, cd, rfl⟩ := own_sliceM ho
      obtain ⟨wz, hwz⟩ : ∃ wz, wz = wr := ⟨_, rfl⟩
      subst hwz
      have HOD : Hid _ := ho
      go_wp2_with fail
      go_loopw [11, 12] (fun uv jv wr => ∃ (j : Nat) (z : Int), j ≤ D.length ∧ jv = .int .i64 z ∧ Hid (z = (j : Int) - 1) ∧ -1 ≤ z ∧ z ≤ 4096 ∧ wr.ownsRow wz.heap.size 9 1 uv (D.drop j).reverse.length (txC (D.drop j).reverse) ∧ Below wz.heap.size wz wr) (fun _ jv _ => (intOf jv + 1).toNat)
      case atStart => exact ⟨D.length, _, Nat.le_refl _, rfl, rfl, by omega, by omega, by rw [List.drop_length]; exact World.ownsRow_nil _ _ _ _, Below.refl _ _⟩
      case round =>
        obtain ⟨j, z, hj, rfl, hzj, hzm, hzx, hu, hb2⟩ := hrel
        by_cases hj0 : 0 < j
        · obtain ⟨jj, rfl⟩ : ∃ jj, j = jj + 1 := ⟨j - 1, by omega⟩
          obtain rfl : z = (jj : Int) := by have := hzj.out; omega
          have d2 : decide ((0 : Int) ≤ (jj : Int)) = true := decide_eq_true (by omega)
          obtain ⟨g2, cap2, eg, hg2, hcap2, hrow⟩ := own_at HOD.out (by omega)
          simp only [Value.slice.injEq, true_and] at eg
          obtain ⟨rfl, rfl⟩ := eg
          have cD := keepCell hb2 (hrow jj _ (show (txC D)[jj]? = some (.string D[jj]) by simp [txC, hj]))
          have hjl : (jj : Int) < (D.length : Int) := by omega
          have hdr : (D.drop jj).reverse = (D.drop (jj + 1)).reverse ++ [D[jj]] := by rw [List.drop_eq_getElem_cons (by omega), List.reverse_cons]
          have HDR : Hid _ := hdr
          have hln : (D.drop (jj + 1)).reverse.length ≤ 4096 := by rw [List.length_reverse, List.length_drop]; omega
          have zb := hb2.size
          clear hdr hzj hrow
          generalize D[jj] = s at *
          go_wp2_with (at_builtin; refine wpList_append_own _ rfl _ _ 62 rfl wz.heap.size 9 i0 (.string ⟨#[]⟩) 1 16 Tryz.underlying62 hi hi0 hi1 hi2 rfl (by decide) _ _ _ rfl (hu.alloc _) ⟨wr.heap.size, 0, none⟩ 1 1 [.string s] rfl rfl ?c1 ?c2 ?c3 ?c4 ?c5 ?_)
          case c1 => exact cell_one_new _ _ _
          case c2 => intro u hu; simp at hu; subst hu; rfl
          case c3 => unfold maxLen; omega
          case c4 => omega
          case c5 => simp; omega
          intro v' w4 hown' hgrow _
          have hb4 := below_grown (hb2.alloc (by omega) _) hgrow (fun k hk => (hu.lt k hk).1) (by simp; omega)
          go_wp2
          refine ⟨⟨jj, (jj : Int) - 1, by omega, rfl, rfl, by omega, by omega, by rw [HDR.out, txC_snoc, List.length_append, List.length_reverse, List.length_drop]; exact hown', hb4⟩, ?_⟩
          simp [intOf]
        · obtain rfl : j = 0 := by omega
          obtain rfl : z = -1 := by have := hzj.out; omega
          rw [List.drop_zero, List.length_reverse] at hu
          obtain ⟨pu, cu, rfl⟩ := own_sliceM hu
          have X5 : Blk wr.drew w.heap.size zPt 80 := (hX.below hb2).below (Below.refl _ _).drew
          have s0 := keepCell (Below.refl wr.heap.size wr).drew (keepCell hb2 (keepCell2 HH0.out G.off c3))
          have s1 := keepCell (Below.refl wr.heap.size wr).drew (keepCell hb2 (keepCell2 HH0.out G.off c4))
          have HNE : Hid (g ≠ w.heap.size) := by have hgw2 : g < w.heap.size := hgw; show _ ≠ _; omega
          have HSD : Hid _ := HS.out
          clear HS HOD ho hzj c3 c4
          go_wp2_with fail
          refine wp_region_held_drew (S := (fun wx => wx.cell? ⟨g, off + i * 2, none⟩ = some (.string m.key) ∧ wx.cell? ⟨g, off + i * 2 + 1, none⟩ = some (.string m.dat))) (by kernel_rfl) ⟨s0, s1⟩ (fun hS => ?_)
          refine wpAnyH_take (i := 0) (v := (.int .i64 i)) rfl (by kernel_rfl) (by kernel_rfl) (by kernel_rfl) (fun _ _ _ h => h) (Or.inl ⟨by rfl, fun w hS => by obtain ⟨s0, s1⟩ := hS; go_simp⟩) hS ?_
          refine wpAnyH_take (i := 1) (v := (.slice (some ⟨g, off, none⟩) l.length cap)) rfl (by kernel_rfl) (by kernel_rfl) (by kernel_rfl) (fun _ _ _ h => h) (Or.inl ⟨by rfl, fun w hS => by obtain ⟨s0, s1⟩ := hS; go_simp⟩) hS ?_
          refine wpAnyH_take (i := 2) (v := (.int .i64 i)) rfl (by kernel_rfl) (by kernel_rfl) (by kernel_rfl) (fun _ _ _ h => h) (Or.inl ⟨by rfl, fun w hS => by obtain ⟨s0, s1⟩ := hS; go_simp⟩) hS ?_
          refine wpAnyH_take (i := 3) (v := (.pointer (some ⟨g, off + i * 2, none⟩))) rfl (by kernel_rfl) (by kernel_rfl) (by kernel_rfl) (fun _ _ _ h => h) (Or.inl ⟨by rfl, fun w hS => by obtain ⟨s0, s1⟩ := hS; go_simp⟩) hS ?_
          refine wpAnyH_take (i := 4) (v := (.pointer (some ⟨g, off + i * 2, none⟩))) rfl (by kernel_rfl) (by kernel_rfl) (by kernel_rfl) (fun _ _ _ h => h) (Or.inl ⟨by rfl, fun w hS => by obtain ⟨s0, s1⟩ := hS; go_simp⟩) hS ?_
          refine wpAnyH_take (i := 5) (v := (.string m.key)) rfl (by kernel_rfl) (by kernel_rfl) (by kernel_rfl) (fun _ _ _ h => h) (Or.inl ⟨by rfl, fun w hS => by obtain ⟨s0, s1⟩ := hS; go_simp⟩) hS ?_
          refine wpAnyH_take (i := 6) (v := (.slice (some ⟨g, off, none⟩) l.length cap)) rfl (by kernel_rfl) (by kernel_rfl) (by kernel_rfl) (fun _ _ _ h => h) (Or.inl ⟨by rfl, fun w hS => by obtain ⟨s0, s1⟩ := hS; go_simp⟩) hS ?_
          refine wpAnyH_take (i := 7) (v := (.int .i64 i)) rfl (by kernel_rfl) (by kernel_rfl) (by kernel_rfl) (fun _ _ _ h => h) (Or.inl ⟨by rfl, fun w hS => by obtain ⟨s0, s1⟩ := hS; go_simp⟩) hS ?_
          refine wpAnyH_take (i := 8) (v := (.pointer (some ⟨g, off + i * 2, none⟩))) rfl (by kernel_rfl) (by kernel_rfl) (by kernel_rfl) (fun _ _ _ h => h) (Or.inl ⟨by rfl, fun w hS => by obtain ⟨s0, s1⟩ := hS; go_simp⟩) hS ?_
          refine wpAnyH_take (i := 9) (v := (.pointer (some ⟨g, off + i * 2 + 1, none⟩))) rfl (by kernel_rfl) (by kernel_rfl) (by kernel_rfl) (fun _ _ _ h => h) (Or.inl ⟨by rfl, fun w hS => by obtain ⟨s0, s1⟩ := hS; go_simp⟩) hS ?_
          refine wpAnyH_take (i := 10) (v := (.string m.dat)) rfl (by kernel_rfl) (by kernel_rfl) (by kernel_rfl) (fun _ _ _ h => h) (Or.inl ⟨by rfl, fun w hS => by obtain ⟨s0, s1⟩ := hS; go_simp⟩) hS ?_
          refine wpAnyH_take (i := 11) (v := (.slice pu D.length cu)) rfl (by kernel_rfl) (by kernel_rfl) (by kernel_rfl) (fun _ _ _ h => h) (Or.inl ⟨by rfl, fun w hS => by obtain ⟨s0, s1⟩ := hS; go_simp⟩) hS ?_
          refine wpAnyH_ready (rs := [12]) (by kernel_rfl) (by simp) ?_
          refine AllReadyH.cons rfl (fun K hK => ?_) AllReadyH.nil
          go_simp
          refine hK.out _ _ hS (fun hS => ?_)
          clear hK
          refine wpAnyH_ready (rs := [13]) (by kernel_rfl) (by simp) ?_
          refine AllReadyH.cons rfl (fun K hK => ?_) AllReadyH.nil
          refine step_ifM rfl ?_
          refine wp_store_row 80 (.tmp 6) (.tmp 72) rfl w.heap.size #[.int .i64 i, .string m.key, .string m.dat, .slice pu D.length cu] rfl rfl 80 _ X5 infoPt4 rfl (ptOne _ _ _ _ _ _) ?_
          refine hK.out _ _ ⟨keepRow hS.1 HNE.out, keepRow hS.2 HNE.out⟩ (fun hS => ?_)
          clear hK
          have X6 := X5.setRow #[.int .i64 i, .string m.key, .string m.dat, .slice pu D.length cu]
          refine wpAnyH_done (by kernel_rfl) ?_ _
          go_wp2
          refine bodyPost_ret (v := .agg #[.int .i64 i, .string m.key, .string m.dat, .slice pu D.length cu]) (pathL_results X6 rfl) rfl ?_
          have GW := ((G.below hb2).below (Below.refl wr.heap.size wr).drew).le (d := 2 * l.length) (by omega)
          exact ⟨_, D.reverse, T1, rfl, HSD.out, by rw [List.length_reverse]; exact ownsRow_weakM (own_rowM (own_below hu (Below.refl wr.heap.size wr).drew) (by omega)) (by omega), GW.row (Nat.le_refl _) HLS.out.1 HLS.out.2 HXY.out.1 HXY.out.2⟩
end Go.Proofs.YtpcafjbebhcilaaGreat
