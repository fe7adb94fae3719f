/- Blocks of cells, and the leaves of layer 2: a word turned, a word of a block. -/
import Derived.Test.YtdkkleikabipgaaDoorShP
import Derived.Test.YtdkkleikabipgaaDoorMem
import Derived.Test.YtdkkleikabipgaaDoorRows
import Derived.WalkKit
import Derived.Handy
import Derived.WalkLawsBesides
import Derived.Deep.QuietTactic
import Derived.BigQuiet
import Derived.Deep.WholeRow
import Derived.Deep.MidRow
import Derived.Lib.AppendStr
namespace Go.Proofs.YtdkkleikabipgaaDoor
open Go.RowKit
set_option linter.unusedSimpArgs false
set_option linter.unusedVariables false

/-- The walk's step at a load of a whole row. -/
theorem wpl_load {P : Program} {ops : Array Oper} {rest : List Oper} {dst : Option Tmp} {type : TypeId} {pos : String} {after : Array Edge} {a : Act} {w : World} {Q : Exit → Act → World → Prop} {ty : TypeId} {x : Operand}
    {k : Nat} {cs : Array Value} {t : TypeId} {d : TypeDesc} (X : Blk w k cs t) (hu : P.underlying ty = some d) (hd : d.isRow = true) (hi : (P.info? ty).map (·.size) = some cs.size)
    (hx : a.eval x = .pointer (some ⟨k, 0, none⟩)) (h : wpList P ops Q rest (a.put dst (.agg cs)) w) :
    wpList P ops Q ({ dst := dst, op := .load ty x, type := type, pos := pos, after := after, guard := none } :: rest) a w :=
  wpList_load_row (o := { dst := dst, op := .load ty x, type := type, pos := pos, after := after, guard := none }) rfl ty x rfl k hx t cs (0, 0) d X hu (by cases d <;> simp_all) hi h
/-- The walk's step at a store of a whole row. -/
theorem wpl_store {P : Program} {ops : Array Oper} {rest : List Oper} {dst : Option Tmp} {type : TypeId} {pos : String} {after : Array Edge} {a : Act} {w : World} {Q : Exit → Act → World → Prop} {ty : TypeId} {x y : Operand}
    {k : Nat} {cs cs' : Array Value} {t : TypeId} (X : Blk w k cs t) (hi : (P.info? ty).map (·.size) = some cs'.size) (hs : cs.size = cs'.size) (h1 : cs'.all (·.oneCell') = true)
    (hx : a.eval x = .pointer (some ⟨k, 0, none⟩)) (hy : a.eval y = .agg cs') (h : wpList P ops Q rest (a.put dst undef) (w.setRow k cs')) :
    wpList P ops Q ({ dst := dst, op := .store ty x y, type := type, pos := pos, after := after, guard := none } :: rest) a w :=
  wpList_store_row (o := { dst := dst, op := .store ty x y, type := type, pos := pos, after := after, guard := none }) rfl ty x y rfl k cs' hx hy t cs X hi hs h1 h

theorem u32_xorN (a b : Nat) (ha : a < 4294967296) (hb : b < 4294967296) : bits .xor .u32 (a : Int) (b : Int) = ((a ^^^ b : Nat) : Int) := by
  have hx : a ^^^ b < 4294967296 := xor_lt a b ha hb
  show IntKind.u32.wrap ((BitVec.ofInt 32 (a : Int) ^^^ BitVec.ofInt 32 (b : Int)).toNat : Int) = _
  have ea : (BitVec.ofInt 32 (a : Int)).toNat = a := by rw [BitVec.ofInt_natCast, BitVec.toNat_ofNat]; exact Nat.mod_eq_of_lt (by omega)
  have eb : (BitVec.ofInt 32 (b : Int)).toNat = b := by rw [BitVec.ofInt_natCast, BitVec.toNat_ofNat]; exact Nat.mod_eq_of_lt (by omega)
  rw [BitVec.toNat_xor, ea, eb, IntKind.wrap_u32']
  omega
theorem u32_andN (a b : Nat) (ha : a < 4294967296) (hb : b < 4294967296) : bits .and .u32 (a : Int) (b : Int) = ((a &&& b : Nat) : Int) := by
  have hx : a &&& b < 4294967296 := and_lt a b hb
  show IntKind.u32.wrap ((BitVec.ofInt 32 (a : Int) &&& BitVec.ofInt 32 (b : Int)).toNat : Int) = _
  have ea : (BitVec.ofInt 32 (a : Int)).toNat = a := by rw [BitVec.ofInt_natCast, BitVec.toNat_ofNat]; exact Nat.mod_eq_of_lt (by omega)
  have eb : (BitVec.ofInt 32 (b : Int)).toNat = b := by rw [BitVec.ofInt_natCast, BitVec.toNat_ofNat]; exact Nat.mod_eq_of_lt (by omega)
  rw [BitVec.toNat_and, ea, eb, IntKind.wrap_u32']
  omega
theorem sg0_bits (y : Nat) (h : y < 4294967296) : bits .xor .u32 (bits .xor .u32 (rotR y 7 : Int) (rotR y 18 : Int)) ((y : Int) / 8) = (sg0 y : Int) := by
  have e : (y : Int) / 8 = ((y / 8 : Nat) : Int) := by omega
  rw [e, u32_xorN _ _ (rotR_lt _ _) (rotR_lt _ _), u32_xorN _ _ (xor_lt _ _ (rotR_lt _ _) (rotR_lt _ _)) (by omega)]
  rfl
theorem sg1_bits (y : Nat) (h : y < 4294967296) : bits .xor .u32 (bits .xor .u32 (rotR y 17 : Int) (rotR y 19 : Int)) ((y : Int) / 1024) = (sg1 y : Int) := by
  have e : (y : Int) / 1024 = ((y / 1024 : Nat) : Int) := by omega
  rw [e, u32_xorN _ _ (rotR_lt _ _) (rotR_lt _ _), u32_xorN _ _ (xor_lt _ _ (rotR_lt _ _) (rotR_lt _ _)) (by omega)]
  rfl
theorem bs1_bits (y : Nat) : bits .xor .u32 (bits .xor .u32 (rotR y 6 : Int) (rotR y 11 : Int)) (rotR y 25 : Int) = (bs1 y : Int) := by
  rw [u32_xorN _ _ (rotR_lt _ _) (rotR_lt _ _), u32_xorN _ _ (xor_lt _ _ (rotR_lt _ _) (rotR_lt _ _)) (rotR_lt _ _)]
  rfl
theorem bs0_bits (y : Nat) : bits .xor .u32 (bits .xor .u32 (rotR y 2 : Int) (rotR y 13 : Int)) (rotR y 22 : Int) = (bs0 y : Int) := by
  rw [u32_xorN _ _ (rotR_lt _ _) (rotR_lt _ _), u32_xorN _ _ (xor_lt _ _ (rotR_lt _ _) (rotR_lt _ _)) (rotR_lt _ _)]
  rfl
theorem mjr_bits (a b c : Nat) (ha : a < 4294967296) (hb : b < 4294967296) (hc : c < 4294967296) :
    bits .xor .u32 (bits .xor .u32 (bits .and .u32 (a : Int) (b : Int)) (bits .and .u32 (a : Int) (c : Int))) (bits .and .u32 (b : Int) (c : Int)) = (mjr a b c : Int) := by
  rw [u32_andN _ _ ha hb, u32_andN _ _ ha hc, u32_andN _ _ hb hc, u32_xorN _ _ (and_lt _ _ hb) (and_lt _ _ hc), u32_xorN _ _ (xor_lt _ _ (and_lt _ _ hb) (and_lt _ _ hc)) (and_lt _ _ hc), mjr_xor]

theorem wu64 (n : Int) : IntKind.u64.wrap n = n % 18446744073709551616 := by simp [IntKind.wrap, IntKind.bits, IntKind.signed]
theorem wu64s (n : Int) (h₀ : 0 ≤ n) (h₁ : n < 2 ^ 64) : IntKind.u64.wrap n = n := by rw [wu64]; omega
theorem neg_wrap (n : Nat) (h1 : 1 ≤ n) (h2 : n ≤ 31) : bits .and .u64 (IntKind.u64.wrap (-(n : Int))) 31 = ((32 - n : Nat) : Int) := by
  have h := bits_mask .u64 64 (by decide) wu64s 5 (by decide) (IntKind.u64.wrap (-(n : Int))) (by rw [wu64]; omega) (by rw [wu64]; omega)
  have e : (2 : Int) ^ 5 - 1 = 31 := by decide
  rw [e] at h
  rw [h, wu64]; omega

theorem ret_int {k : IntKind} {a b : Int} (h : a = b) : Ending.returned (.int k a) = .returned (.int k b) := by rw [h]
theorem u32_or_comm (a b : Int) : bits .or .u32 a b = bits .or .u32 b a := by unfold bits; simp [BitVec.or_comm]
theorem rot_u32b (x n : Nat) (hx : x < 4294967296) (h1 : 1 ≤ n) (h2 : n ≤ 31) :
    bits .or .u32 ((x : Int) * 2 ^ (32 - n) % 4294967296) ((x : Int) / 2 ^ (32 - (32 - n))) = (rotR x n : Int) := by
  have e : 32 - (32 - n) = n := by omega
  rw [e, u32_or_comm, ← rot_u32 x n hx (by omega), IntKind.wrap_u32']

set_option maxHeartbeats 400000 in
theorem rotate_calls (x n : Nat) (w : World) (hx : x < 4294967296) (h1 : 1 ≤ n) (h2 : n ≤ 31) :
    Calls Tryd.prog 30 #[.int .u32 x, .int .i64 (-(n : Int))] w fun e w' => e = .returned (.int .u32 (rotR x n)) ∧ w' = w := by
  have hn := neg_wrap n h1 h2
  go_enter Tryd.func30, Tryd.ntmps30
  go_wp2
  go_ret
  exact ⟨ret_int (rot_u32b x n hx h1 h2), rfl⟩
set_option maxHeartbeats 400000 in
theorem right_calls (x n : Nat) (w : World) (hx : x < 4294967296) (h1 : 1 ≤ n) (h2 : n ≤ 31) :
    Calls Tryd.prog 27 #[.int .u32 x, .int .i64 n] w fun e w' => e = .returned (.int .u32 (rotR x n)) ∧ w' = w := by
  go_enter Tryd.func27, Tryd.ntmps27
  go_wp2_with fail
  refine (rotate_calls x n _ hx h1 h2).mono ?_
  rintro e w1 ⟨rfl, rfl⟩
  go_wp2
  go_ret
  exact ⟨rfl, rfl⟩
theorem right_lit (x : Nat) (n : Int) (w : World) (hx : x < 4294967296) (h1 : 1 ≤ n) (h2 : n ≤ 31) :
    Calls Tryd.prog 27 #[.int .u32 x, .int .i64 n] w fun e w' => e = .returned (.int .u32 (rotR x n.toNat)) ∧ w' = w := by
  obtain ⟨m, rfl⟩ := Int.eq_ofNat_of_zero_le (show 0 ≤ n by omega)
  exact right_calls x m w hx (by omega) (by omega)

/-- An array of bytes as a value. -/
def byA (l : List UInt8) : Array Value := (Lib.byteCells l).toArray
theorem byA_size (l : List UInt8) : (byA l).size = l.length := by simp [byA, Lib.byteCells]
theorem byA_get (l : List UInt8) (j : Nat) (h : j < l.length) : (byA l)[j]? = some (.int .u8 ((l.getD j 0).toNat : Int)) := by
  simp [byA, Lib.byteCells, h, List.getD_eq_getElem?_getD]

theorem join4 (a b c d : Nat) (ha : a < 256) (hb : b < 256) (hc : c < 256) (hd : d < 256) :
    bits .or .u32 (bits .or .u32 (bits .or .u32 ((a : Int) % 4294967296 * 16777216 % 4294967296) ((b : Int) % 4294967296 * 65536 % 4294967296)) ((c : Int) % 4294967296 * 256 % 4294967296)) ((d : Int) % 4294967296)
      = ((a * 16777216 + b * 65536 + c * 256 + d : Nat) : Int) := by
  have e1 : (a : Int) % 4294967296 * 16777216 % 4294967296 = ((a * 16777216 : Nat) : Int) := by omega
  have e2 : (b : Int) % 4294967296 * 65536 % 4294967296 = ((b * 65536 : Nat) : Int) := by omega
  have e3 : (c : Int) % 4294967296 * 256 % 4294967296 = ((c * 256 : Nat) : Int) := by omega
  have e4 : (d : Int) % 4294967296 = (d : Int) := by omega
  rw [e1, e2, e3, e4, u32_or_nat _ _ (by omega) (by omega), nat_join 24 (a * 16777216) (b * 65536) (by omega) (by omega), u32_or_nat _ _ (by omega) (by omega), nat_join 16 _ (c * 256) (by omega) (by omega), u32_or_nat _ _ (by omega) (by omega), nat_join 8 _ d (by omega) (by omega)]

set_option maxHeartbeats 1000000 in
theorem word_calls (l : List UInt8) (i : Nat) (w : World) (hl : l.length = 64) (hi : i < 16) :
    Calls Tryd.prog 29 #[.agg (byA l), .int .i64 (4 * (i : Int))] w fun e w' => e = .returned (.int .u32 (wordAt l i)) ∧ Below w.heap.size w w' := by
  have X0 := blk_new w w.heap.size (byA l) 40 rfl
  have c0 := X0.cell (byA_get l (4 * i) (by omega))
  have c1 := X0.cell (byA_get l (4 * i + 1) (by omega))
  have c2 := X0.cell (byA_get l (4 * i + 2) (by omega))
  have c3 := X0.cell (byA_get l (4 * i + 3) (by omega))
  go_enter Tryd.func29, Tryd.ntmps29
  go_wp2
  go_region
  go_wp2
  go_ret
  refine ⟨ret_int ?_, ((Below.refl _ _).alloc (Nat.le_refl _) _).drew⟩
  rw [join4 _ _ _ _ (UInt8.toNat_lt _) (UInt8.toNat_lt _) (UInt8.toNat_lt _) (UInt8.toNat_lt _)]
  simp [wordAt, List.getD_eq_getElem?_getD]
end Go.Proofs.YtdkkleikabipgaaDoor
