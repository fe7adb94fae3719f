/- An account's key and value, as the program lays them. -/
import Derived.Test.YtmcafgmjfgfaeaaDoorLr08
import Derived.Test.YtmcafgmjfgfaeaaDoorLr20
namespace Go.Proofs.YtmcafgmjfgfaeaaDoor
open Go.RowKit
set_option linter.unusedSimpArgs false
set_option linter.unusedVariables false

def dig1 (n : Nat) : ByteArray := ⟨#[UInt8.ofNat (48 + n)]⟩
def digs : ByteArray := ⟨#[48, 49, 50, 51, 52, 53, 54, 55, 56, 57, 97, 98, 99, 100, 101, 102, 103, 104, 105, 106, 107, 108, 109, 110, 111, 112, 113, 114, 115, 116, 117, 118, 119, 120, 121, 122]⟩
theorem digs_cut (n : Nat) (h : n < 10) : digs.extract n (n + 1) = dig1 n := by
  have : n = 0 ∨ n = 1 ∨ n = 2 ∨ n = 3 ∨ n = 4 ∨ n = 5 ∨ n = 6 ∨ n = 7 ∨ n = 8 ∨ n = 9 := by omega
  rcases this with rfl | rfl | rfl | rfl | rfl | rfl | rfl | rfl | rfl | rfl <;> decide +kernel
theorem small_calls (n : Nat) (w : World) (h : n < 10) : Calls Tryd.prog 85 #[.int .i64 n] w fun e w' => e = .returned (.string (dig1 n)) ∧ w' = w := by
  have hd : decide ((n : Int) < 10) = true := by simp only [decide_eq_true_eq]; omega
  have hsl : (Instr.slice 9 (.string digs) (some (.int .i64 (n : Int))) (some (.int .i64 ((n : Int) + 1))) none).run Tryd.prog w = .ok (.string (dig1 n)) w := by
    have h1 := run_slice_string (P := Tryd.prog) w 9 digs .i64 .i64 (n : Int) ((n : Int) + 1) Tryd.underlying9 (by omega) (by omega) (by rw [show digs.size = 36 from rfl]; omega)
    rw [show ((n : Int)).toNat = n by omega, show ((n : Int) + 1).toNat = n + 1 by omega, digs_cut n h] at h1
    exact h1
  unfold digs at hsl
  go_enter Tryd.func85, Tryd.ntmps85
  go_wp2
  go_ret
  exact ⟨rfl, rfl⟩
theorem formatInt_calls (n : Nat) (w : World) (h : n < 10) : Calls Tryd.prog 80 #[.int .i64 n, .int .i64 10] w fun e w' => e = .returned (.string (dig1 n)) ∧ w' = w := by
  have hd : decide ((n : Int) < 100) = true := by simp only [decide_eq_true_eq]; omega
  have hd0 : decide (0 ≤ (n : Int)) = true := by simp
  have hs := small_calls n w h
  go_enter Tryd.func80, Tryd.ntmps80
  go_wp2_with fail
  refine hs.mono ?_
  rintro e w1 ⟨rfl, rfl⟩
  go_wp2
  go_ret
  exact ⟨rfl, rfl⟩
theorem itoa0_calls (n : Nat) (w : World) (h : n < 10) : Calls Tryd.prog 69 #[.int .i64 n] w fun e w' => e = .returned (.string (dig1 n)) ∧ w' = w := by
  have hs := formatInt_calls n w h
  go_enter Tryd.func69, Tryd.ntmps69
  go_wp2_with fail
  refine hs.mono ?_
  rintro e w1 ⟨rfl, rfl⟩
  go_wp2
  go_ret
  exact ⟨rfl, rfl⟩
theorem itoa_calls (n : Nat) (w : World) (h : n < 10) : Calls Tryd.prog 57 #[.int .i64 n] w fun e w' => e = .returned (.string (dig1 n)) ∧ w' = w := by
  have hs := itoa0_calls n w h
  go_enter Tryd.func57, Tryd.ntmps57
  go_wp2_with fail
  refine hs.mono ?_
  rintro e w1 ⟨rfl, rfl⟩
  go_wp2
  go_ret
  exact ⟨rfl, rfl⟩
/-- An account's key. -/
def keyB (i : Nat) : ByteArray := ⟨#[97, 99, 99, 116, 47, UInt8.ofNat (48 + i / 10), UInt8.ofNat (48 + i % 10)]⟩
theorem keyOf_calls (i : Nat) (w : World) (h : i < 100) : Calls Tryd.prog 37 #[.int .i64 i] w fun e w' => e = .returned (.string (keyB i)) ∧ w' = w := by
  have h1 := itoa_calls (i / 10) w (by omega)
  have h2 := itoa_calls (i % 10) w (by omega)
  have q1 : (i : Int).tdiv 10 = ((i / 10 : Nat) : Int) := rfl
  have q2 : (i : Int).tmod 10 = ((i % 10 : Nat) : Int) := rfl
  go_enter Tryd.func37, Tryd.ntmps37
  go_wp2_with fail
  refine h1.mono ?_
  rintro e w1 ⟨rfl, rfl⟩
  go_wp2_with fail
  refine h2.mono ?_
  rintro e w2 ⟨rfl, rfl⟩
  go_wp2
  go_ret
  exact ⟨rfl, rfl⟩

set_option maxRecDepth 100000 in
set_option maxHeartbeats 1000000 in
theorem lay_calls (B b : Nat) (l : List UInt8) (w : World) (q off cap : Nat) (m : List Int) (cs : Array Value) (t : TypeId) (h : Bdr B b l w) (X : Blk w q cs t) (hq : q ≠ b) (ht : t ≠ 5)
    (hcs : ∀ i (h : i < m.length), cs[off + i]? = some (.int .i64 m[i])) (hm : ∀ i (h : i < m.length), 0 ≤ m[i] ∧ m[i] ≤ 9007199254740992) (hl : l.length + 10 * m.length ≤ 1000000) (hc : m.length ≤ cap) (hB : B ≤ w.heap.size) :
    Calls Tryd.prog 58 #[.slice (some ⟨q, off, none⟩) m.length cap, .pointer (some ⟨b, 0, none⟩)] w fun e w' => e = .returned (.tuple #[]) ∧ Bdr B b (l ++ encs m) w' ∧ Below B w w' ∧ Lib.OthersKept 5 (some b) w w' := by
  have HC : Hid _ := hcs
  have HM : Hid _ := hm
  clear hcs hm
  go_enter Tryd.func58, Tryd.ntmps58
  go_wp2
  go_loopw [9] (fun i wr => ∃ k : Nat, k ≤ m.length ∧ i = .int .i64 k ∧ Bdr B b (l ++ encs (m.take k)) wr ∧ Below B w wr ∧ Lib.OthersKept 5 (some b) w wr) (fun i _ => m.length - (intOf i).toNat)
  case atStart => exact ⟨0, Nat.zero_le _, rfl, by simpa [encs] using h, Below.refl _ _, Lib.OthersKept.refl _ _ _⟩
  case round =>
    obtain ⟨k, hk, rfl, hb, hbl, hkp⟩ := hrel
    by_cases hlt : k < m.length
    · have hd : decide ((k : Int) < m.length) = true := by simp only [decide_eq_true_eq]; omega
      have c0 : wr.cell? ⟨q, off + k, none⟩ = some (.int .i64 m[k]) := (X.kept hkp hq ht).cell (HC.out k hlt)
      have ht' := encs_take m k hlt
      obtain ⟨hm0, hm1⟩ := HM.out k hlt
      have hel := encs_len (m.take k)
      rw [List.length_take, Nat.min_eq_left hk] at hel
      generalize hz : m[k] = z at *
      obtain ⟨n, rfl⟩ := Int.eq_ofNat_of_zero_le hm0
      rw [Int.toNat_natCast] at ht'
      have HT : Hid _ := ht'
      have HZ : Hid _ := hz
      clear ht' hz
      have hp := putInt_ok n wr (by omega)
      have HP : Hid _ := hp
      clear hp
      have hen := enc_le n
      have hls : (l ++ encs (m.take k)).length + (enc n).length ≤ 140737488355328 := by rw [List.length_append]; omega
      generalize hA : l ++ encs (m.take k) = acc at *
      have HA : Hid _ := hA
      clear hA
      go_wp2_with fail
      refine Calls.mono HP.out ?_
      rintro e w1 ⟨rfl, b1⟩
      have hB1 := hb.below b1
      have z0 := hbl.size
      have z1 := b1.size
      have HW : Hid _ := writeString_calls B b acc ⟨(enc n).toArray⟩ w1 hB1 (by simpa [ByteArray.size] using hls) (by omega)
      go_wp2_with fail
      refine Calls.mono HW.out ?_
      rintro e w2 ⟨rfl, hB2, b2, k2⟩
      go_wp2
      refine ⟨⟨k + 1, by omega, by norm_cast, ?_, (hbl.trans (b1.mono (by omega))).trans b2, (hkp.trans (kept_below b1)).trans k2⟩, ?_⟩
      · rw [HT.out, ← List.append_assoc, HA.out]; exact hB2
      · simp [intOf]; omega
    · have hd : decide ((k : Int) < m.length) = false := by simp only [decide_eq_false_iff_not]; omega
      have htk : m.take k = m := List.take_of_length_le (by omega)
      rw [htk] at hb
      go_wp2
      go_end0
      exact ⟨rfl, hb, hbl, hkp⟩

theorem slice4_0 (q off : Nat) (wx : World) : (Instr.sliceAt 63 (.pointer (some ⟨q, off, none⟩)) none (some (.int .i64 0)) none).run Tryd.prog wx = .ok (.slice (some ⟨q, off, none⟩) 0 4) wx := by kernel_rfl
theorem slice4_1 (q off : Nat) (wx : World) : (Instr.sliceAt 63 (.pointer (some ⟨q, off, none⟩)) none (some (.int .i64 1)) none).run Tryd.prog wx = .ok (.slice (some ⟨q, off, none⟩) 1 4) wx := by kernel_rfl
theorem slice4_2 (q off : Nat) (wx : World) : (Instr.sliceAt 63 (.pointer (some ⟨q, off, none⟩)) none (some (.int .i64 2)) none).run Tryd.prog wx = .ok (.slice (some ⟨q, off, none⟩) 2 4) wx := by kernel_rfl
theorem slice4_3 (q off : Nat) (wx : World) : (Instr.sliceAt 63 (.pointer (some ⟨q, off, none⟩)) none (some (.int .i64 3)) none).run Tryd.prog wx = .ok (.slice (some ⟨q, off, none⟩) 3 4) wx := by kernel_rfl
theorem slice4_4 (q off : Nat) (wx : World) : (Instr.sliceAt 63 (.pointer (some ⟨q, off, none⟩)) none (some (.int .i64 4)) none).run Tryd.prog wx = .ok (.slice (some ⟨q, off, none⟩) 4 4) wx := by kernel_rfl
/-- The first numbers of an array. -/
theorem slice4 (q off g : Nat) (hg : g ≤ 4) (wx : World) : (Instr.sliceAt 63 (.pointer (some ⟨q, off, none⟩)) none (some (.int .i64 (g : Int))) none).run Tryd.prog wx = .ok (.slice (some ⟨q, off, none⟩) g 4) wx := by
  match g, hg with
  | 0, _ => exact slice4_0 q off wx
  | 1, _ => exact slice4_1 q off wx
  | 2, _ => exact slice4_2 q off wx
  | 3, _ => exact slice4_3 q off wx
  | 4, _ => exact slice4_4 q off wx
/-- An account's value. -/
def valB (k : Kt) (g : Nat) : List UInt8 := encs [k.n 10, k.n 0, k.n 1] ++ encs ((List.range g).map fun i => k.n (2 + i)) ++ encs ((List.range g).map fun i => k.n (6 + i)) ++ (enc k.reply.size ++ k.reply.data.toList)
/-- What can be laid: numbers of at most 2^40, a reply of at most 256 bytes. -/
structure Kt.fits (k : Kt) : Prop where
  num : ∀ j, j < 11 → 0 ≤ k.n j ∧ k.n j ≤ 1099511627776
  rep : k.reply.size ≤ 256
theorem Inv.fits {g : Nat} {l : List Kt} (H : Inv g l) {i : Nat} (hi : i < l.length) : (kAt l i).fits := by
  refine ⟨fun j hj => ?_, H.reply i hi⟩
  have h0 := H.le part0 hi
  have h2 := H.le part2 hi
  have h3 := H.le part3 hi
  have h4 := H.le part4 hi
  have h5 := H.le part5 hi
  have hs := H.stamp i hi
  have : j = 0 ∨ j = 1 ∨ j = 2 ∨ j = 3 ∨ j = 4 ∨ j = 5 ∨ j = 6 ∨ j = 7 ∨ j = 8 ∨ j = 9 ∨ j = 10 := by omega
  rcases this with rfl | rfl | rfl | rfl | rfl | rfl | rfl | rfl | rfl | rfl | rfl <;> omega

set_option maxRecDepth 100000 in
set_option maxHeartbeats 2000000 in
theorem valueOf_calls (k : Kt) (g : Nat) (w : World) (hf : k.fits) (hg : g ≤ 4) :
    Calls Tryd.prog 38 #[.agg k.cells.toArray, .int .i64 g] w fun e w' => e = .returned (.string ⟨(valB k g).toArray⟩) ∧ Below w.heap.size w w' := by
  obtain ⟨W1, hW1, X1, Bd1, B1, Z1⟩ : ∃ W1, ((w.alloc (.cells #[.int .i64 (k.n 0), .int .i64 (k.n 1), .int .i64 (k.n 2), .int .i64 (k.n 3), .int .i64 (k.n 4), .int .i64 (k.n 5), .int .i64 (k.n 6), .int .i64 (k.n 7), .int .i64 (k.n 8), .int .i64 (k.n 9), .int .i64 (k.n 10), .string k.reply] 67)).alloc (.cells #[.pointer none, .slice none 0 0] 94)) = W1 ∧ Blk W1 w.heap.size k.cells.toArray 67 ∧ Bdr (w.heap.size + 1) (w.heap.size + 1) [] W1 ∧ Below w.heap.size w W1 ∧ W1.heap.size = w.heap.size + 2 := by
    refine ⟨_, rfl, (blk_new _ _ _ _ rfl).alloc _, ?_, by go_grown, by simp⟩
    have := Lib.fresh_isBuilder 94 5 (w.alloc (.cells #[.int .i64 (k.n 0), .int .i64 (k.n 1), .int .i64 (k.n 2), .int .i64 (k.n 3), .int .i64 (k.n 4), .int .i64 (k.n 5), .int .i64 (k.n 6), .int .i64 (k.n 7), .int .i64 (k.n 8), .int .i64 (k.n 9), .int .i64 (k.n 10), .string k.reply] 67))
    rw [show (w.alloc (.cells #[.int .i64 (k.n 0), .int .i64 (k.n 1), .int .i64 (k.n 2), .int .i64 (k.n 3), .int .i64 (k.n 4), .int .i64 (k.n 5), .int .i64 (k.n 6), .int .i64 (k.n 7), .int .i64 (k.n 8), .int .i64 (k.n 9), .int .i64 (k.n 10), .string k.reply] 67)).heap.size = w.heap.size + 1 by simp] at this
    exact this
  have c0 : W1.cell? ⟨w.heap.size, 0, none⟩ = some (.int .i64 (k.n 0)) := X1.cell rfl
  have c1 : W1.cell? ⟨w.heap.size, 1, none⟩ = some (.int .i64 (k.n 1)) := X1.cell rfl
  have c10 : W1.cell? ⟨w.heap.size, 10, none⟩ = some (.int .i64 (k.n 10)) := X1.cell rfl
  have hv : (Value.agg k.cells.toArray) = .agg #[.int .i64 (k.n 0), .int .i64 (k.n 1), .int .i64 (k.n 2), .int .i64 (k.n 3), .int .i64 (k.n 4), .int .i64 (k.n 5), .int .i64 (k.n 6), .int .i64 (k.n 7), .int .i64 (k.n 8), .int .i64 (k.n 9), .int .i64 (k.n 10), .string k.reply] := rfl
  rw [hv]
  obtain ⟨W2, hW2, X2, B2, Z2⟩ : ∃ W2, (W1.alloc (.cells #[.int .i64 (k.n 10), .int .i64 (k.n 0), .int .i64 (k.n 1)] 3)) = W2 ∧ Blk W2 (w.heap.size + 2) #[.int .i64 (k.n 10), .int .i64 (k.n 0), .int .i64 (k.n 1)] 3 ∧ Below W1.heap.size W1 W2 ∧ W2.heap.size = w.heap.size + 3 := ⟨_, rfl, blk_new _ _ _ _ Z1.symm, by go_grown, by simp [Z1]⟩
  have HL1 : Hid _ := lay_calls (w.heap.size + 1) (w.heap.size + 1) [] W2 (w.heap.size + 2) 0 3 [k.n 10, k.n 0, k.n 1] #[.int .i64 (k.n 10), .int .i64 (k.n 0), .int .i64 (k.n 1)] 3 (Bd1.below B2) X2 (by omega) (by decide)
    (fun i hi => by
      have : i = 0 ∨ i = 1 ∨ i = 2 := by simp at hi; omega
      rcases this with rfl | rfl | rfl <;> rfl)
    (fun i hi => by
      have h0 := hf.num 0 (by omega)
      have h1 := hf.num 1 (by omega)
      have h10 := hf.num 10 (by omega)
      have : i = 0 ∨ i = 1 ∨ i = 2 := by simp at hi; omega
      rcases this with rfl | rfl | rfl
      · show 0 ≤ k.n 10 ∧ k.n 10 ≤ _; omega
      · show 0 ≤ k.n 0 ∧ k.n 0 ≤ _; omega
      · show 0 ≤ k.n 1 ∧ k.n 1 ≤ _; omega) (by simp) (by simp) (by omega)
  rw [show ([k.n 10, k.n 0, k.n 1] : List Int).length = 3 from rfl, List.nil_append] at HL1
  have HX1 : Hid _ := X1
  have HBd : Hid _ := Bd1
  have HZ1 : Hid _ := Z1
  have HZ2 : Hid _ := Z2
  have hsz : W1.heap.size = w.heap.size + 2 := Z1
  clear X1 Bd1 Z1 Z2
  go_enter Tryd.func38, Tryd.ntmps38
  go_wp2_with fail
  refine Calls.mono HL1.out ?_
  rintro e w3 ⟨rfl, h3, b3, k3⟩
  clear HL1
  have z3 := b3.size
  have B13 : Below (w.heap.size + 1) W1 w3 := (B2.mono (by omega)).trans b3
  have X3 : Blk w3 w.heap.size k.cells.toArray 67 := (B13.block w.heap.size (by omega)).trans HX1.out
  have hz2 := HZ2.out
  have hrl : ∀ f : Nat → Int, ((List.range g).map f).length = g := fun f => by simp
  have he1 := encs_len [k.n 10, k.n 0, k.n 1]
  rw [show ([k.n 10, k.n 0, k.n 1] : List Int).length = 3 from rfl] at he1
  have HL2 : Hid _ := lay_calls (w.heap.size + 1) (w.heap.size + 1) (encs [k.n 10, k.n 0, k.n 1]) w3 w.heap.size 2 4 ((List.range g).map fun i => k.n (2 + i)) k.cells.toArray 67 h3 X3 (by omega) (by decide)
    (fun i hi => by
      rw [hrl] at hi
      rw [List.getElem?_toArray, Kt.num k (2 + i) (by omega)]
      simp)
    (fun i hi => by
      rw [hrl] at hi
      have := hf.num (2 + i) (by omega)
      simp only [List.getElem_map, List.getElem_range]
      omega) (by rw [hrl]; omega) (by rw [hrl]; omega) (by omega)
  rw [hrl] at HL2
  have hs2 := fun wx : World => slice4 w.heap.size 2 g hg wx
  have hs6 := fun wx : World => slice4 w.heap.size 6 g hg wx
  go_wp2_with fail
  refine Calls.mono HL2.out ?_
  rintro e w4 ⟨rfl, h4, b4, k4⟩
  clear HL2
  have z4 := b4.size
  have X4 : Blk w4 w.heap.size k.cells.toArray 67 := (b4.block w.heap.size (by omega)).trans X3
  have he2 := encs_len ((List.range g).map fun i => k.n (2 + i))
  rw [hrl] at he2
  have HL3 : Hid _ := lay_calls (w.heap.size + 1) (w.heap.size + 1) _ w4 w.heap.size 6 4 ((List.range g).map fun i => k.n (6 + i)) k.cells.toArray 67 h4 X4 (by omega) (by decide)
    (fun i hi => by
      rw [hrl] at hi
      rw [List.getElem?_toArray, Kt.num k (6 + i) (by omega)]
      simp)
    (fun i hi => by
      rw [hrl] at hi
      have := hf.num (6 + i) (by omega)
      simp only [List.getElem_map, List.getElem_range]
      omega) (by rw [hrl, List.length_append]; omega) (by rw [hrl]; omega) (by omega)
  rw [hrl] at HL3
  go_wp2_with fail
  refine Calls.mono HL3.out ?_
  rintro e w5 ⟨rfl, h5, b5, k5⟩
  clear HL3
  have z5 := b5.size
  have X5 : Blk w5 w.heap.size k.cells.toArray 67 := (b5.block w.heap.size (by omega)).trans X4
  have c11 : w5.cell? ⟨w.heap.size, 11, none⟩ = some (.string k.reply) := X5.cell rfl
  have he3 := encs_len ((List.range g).map fun i => k.n (6 + i))
  rw [hrl] at he3
  have HPT : Hid _ := putText_ok k.reply w5 (by have := hf.rep; omega)
  go_wp2_with fail
  refine Calls.mono HPT.out ?_
  rintro e w6 ⟨rfl, b6⟩
  clear HPT
  have z6 := b6.size
  have h6 := h5.below b6
  have her := enc_le k.reply.size
  have hrp := hf.rep
  have hrs : k.reply.data.toList.length = k.reply.size := by simp
  have HWS : Hid _ := writeString_calls (w.heap.size + 1) (w.heap.size + 1) _ ⟨(enc k.reply.size ++ k.reply.data.toList).toArray⟩ w6 h6 (by
    rw [show (ByteArray.mk (enc k.reply.size ++ k.reply.data.toList).toArray).size = (enc k.reply.size ++ k.reply.data.toList).length from List.size_toArray]
    simp only [List.length_append, hrs]
    omega) (by omega)
  go_wp2_with fail
  refine Calls.mono HWS.out ?_
  rintro e w7 ⟨rfl, h7, b7, k7⟩
  clear HWS
  have z7 := b7.size
  have hv8 : encs [k.n 10, k.n 0, k.n 1] ++ encs ((List.range g).map fun i => k.n (2 + i)) ++ encs ((List.range g).map fun i => k.n (6 + i)) ++ (ByteArray.mk (enc k.reply.size ++ k.reply.data.toList).toArray).data.toList = valB k g := rfl
  rw [hv8] at h7
  clear hv8
  have HST : Hid _ := bString_calls (w.heap.size + 1) (w.heap.size + 1) _ w7 h7 (by omega)
  go_wp2_with fail
  refine Calls.mono HST.out ?_
  rintro e w8 ⟨rfl, b8⟩
  go_wp2
  go_ret
  refine ⟨rfl, ?_⟩
  have F : Below w.heap.size w w3 := (B1.trans (B2.mono (by omega))).trans (b3.mono (by omega))
  exact ((((F.trans (b4.mono (by omega))).trans (b5.mono (by omega))).trans (b6.mono (by omega))).trans (b7.mono (by omega))).trans (b8.mono (by omega))
end Go.Proofs.YtmcafgmjfgfaeaaDoor
