/- A key, filled up and masked. -/
import Derived.Test.YtdkkleikabipgaaDoorShI
import Derived.Test.YtdkkleikabipgaaDoorShA
namespace Go.Proofs.YtdkkleikabipgaaDoor
open Go.RowKit
set_option linter.unusedSimpArgs false
set_option linter.unusedVariables false

def zB64 : List UInt8 := List.replicate 64 0
theorem infoB64 : (Tryd.prog.info? 40).map (fun i => (i.zero, i.size)) = some (some (.agg (byA zB64)), 64) := by kernel_rfl
def keyF (k : List UInt8) : List UInt8 := k ++ List.replicate (64 - k.length) 0
theorem keyF_length (k : List UInt8) (h : k.length ≤ 64) : (keyF k).length = 64 := by simp [keyF]; omega
theorem fill_copy (m : Nat) (k : List UInt8) (n : Nat) (hn : k.length = n) : ((byA (List.replicate m 0)).toList.take 0 ++ Lib.byteCells (k.take n) ++ (byA (List.replicate m 0)).toList.drop (0 + n)).toArray = byA (k ++ List.replicate (m - k.length) 0) := by
  subst hn
  unfold byA
  simp [Lib.byteCells]
theorem keyF_copy (k : List UInt8) (n : Nat) (hn : k.length = n) : ((byA zB64).toList.take 0 ++ Lib.byteCells (k.take n) ++ (byA zB64).toList.drop (0 + n)).toArray = byA (keyF k) := fill_copy 64 k n hn
def mskL (l : List UInt8) (x : UInt8) (k : Nat) : List UInt8 := (l.take k).map (· ^^^ x) ++ l.drop k
theorem mskL_length (l : List UInt8) (x : UInt8) (k : Nat) : (mskL l x k).length = l.length := by simp [mskL]; omega
theorem mskL_get (l : List UInt8) (x : UInt8) (k i : Nat) (h : i < l.length) : (mskL l x k).getD i 0 = if i < k then l.getD i 0 ^^^ x else l.getD i 0 := by
  unfold mskL
  rw [List.getD_eq_getElem?_getD, List.getD_eq_getElem?_getD, List.getElem?_append, List.length_map, List.length_take]
  by_cases e : i < k
  · rw [if_pos (by omega), if_pos e, List.getElem?_map, List.getElem?_take, if_pos e, List.getElem?_eq_getElem h]; rfl
  · rw [if_neg (by omega), if_neg e, List.getElem?_drop]
    by_cases hk : k ≤ l.length
    · rw [show k + (i - min k l.length) = i by omega]
    · omega
theorem mskL_set (l : List UInt8) (x : UInt8) (k : Nat) (h : k < l.length) : (byA (mskL l x k)).setIfInBounds k (.int .u8 ((l.getD k 0 ^^^ x).toNat : Int)) = byA (mskL l x (k + 1)) := by
  apply Array.ext_getElem?
  intro i
  rw [Array.getElem?_setIfInBounds, byA_size, mskL_length]
  by_cases hi : i < l.length
  · rw [byA_get (mskL l x (k + 1)) i (by rw [mskL_length]; exact hi), mskL_get _ _ _ _ hi]
    by_cases e : k = i
    · subst e; rw [if_pos rfl, if_pos hi, if_pos (by omega)]
    · rw [if_neg e, byA_get (mskL l x k) i (by rw [mskL_length]; exact hi), mskL_get _ _ _ _ hi]
      by_cases hk : i < k
      · rw [if_pos hk, if_pos (by omega)]
      · rw [if_neg hk, if_neg (by omega)]
  · rw [if_neg (by omega), Array.getElem?_eq_none (by rw [byA_size, mskL_length]; omega), Array.getElem?_eq_none (by rw [byA_size, mskL_length]; omega)]
theorem u8_xor (a b : UInt8) : bits .xor .u8 (a.toNat : Int) (b.toNat : Int) = ((a ^^^ b).toNat : Int) := by
  have ha := a.toNat_lt
  have hb := b.toNat_lt
  have hx : a.toNat ^^^ b.toNat < 2 ^ 8 := Nat.xor_lt_two_pow ha hb
  show IntKind.u8.wrap ((BitVec.ofInt 8 (a.toNat : Int) ^^^ BitVec.ofInt 8 (b.toNat : Int)).toNat : Int) = _
  have ea : (BitVec.ofInt 8 (a.toNat : Int)).toNat = a.toNat := by rw [BitVec.ofInt_natCast, BitVec.toNat_ofNat]; exact Nat.mod_eq_of_lt (by omega)
  have eb : (BitVec.ofInt 8 (b.toNat : Int)).toNat = b.toNat := by rw [BitVec.ofInt_natCast, BitVec.toNat_ofNat]; exact Nat.mod_eq_of_lt (by omega)
  rw [BitVec.toNat_xor, ea, eb, wu8, UInt8.toNat_xor]
  omega

set_option maxRecDepth 100000 in
set_option maxHeartbeats 1000000 in
theorem masked_calls (s : ByteArray) (x : UInt8) (w : World) (hs : s.size ≤ 64) :
    Calls Tryd.prog 21 #[.string s, .int .u8 (x.toNat : Int)] w fun e w' => e = .returned (.string ⟨(keyX s.data.toList x).toArray⟩) ∧ Below w.heap.size w w' := by
  obtain ⟨hz0, hz1⟩ := zero_of_info infoB64
  have hkl : s.data.toList.length = s.size := by rw [Lib.size_eq]
  have hKF := keyF_length s.data.toList (by omega)
  have HX : Hid (keyX s.data.toList x = mskL (keyF s.data.toList) x 64) := by
    unfold mskL
    rw [List.take_of_length_le (by omega), List.drop_of_length_le (by omega), List.append_nil]
    rfl
  obtain ⟨W1, hW1⟩ : ∃ W1, w.alloc (.cells (byA zB64) 40) = W1 := ⟨_, rfl⟩
  have B1 : Below w.heap.size w W1 := by rw [← hW1]; exact (Below.refl _ _).alloc (Nat.le_refl _) _
  have X1 : Blk W1 w.heap.size (byA zB64) 40 := by rw [← hW1]; exact blk_new _ _ _ _ rfl
  have hcp := run_copy_min (P := Tryd.prog) W1 33 9 3 5 w.heap.size 0 64 64 s.size s _ 40 Tryd.underlying33 sizeByte X1 (by show min _ _ = _; omega) (by rw [byA_size]; show 0 + s.size ≤ 64; omega)
  rw [keyF_copy _ _ hkl] at hcp
  obtain ⟨W2, hW2⟩ : ∃ W2, W1.setRow w.heap.size (byA (keyF s.data.toList)) = W2 := ⟨_, rfl⟩
  have B2 : Below w.heap.size w W2 := by rw [← hW2]; exact below_setRow B1 _ _ (Nat.le_refl _)
  have X2 : Blk W2 w.heap.size (byA (mskL (keyF s.data.toList) x 0)) 40 := by rw [← hW2]; exact X1.setRow _
  rw [hW2] at hcp
  rw [HX.out]
  clear HX X1 B1 hW2
  generalize keyF s.data.toList = l at *
  obtain ⟨r, hr⟩ : ∃ r, mskL l x 64 = r := ⟨_, rfl⟩
  rw [hr]
  have HR : Hid _ := hr
  clear hr
  go_enter Tryd.func21, Tryd.ntmps21
  go_wp2
  go_loopw [10] (fun i wr => ∃ k : Nat, i = .int .i64 (k : Int) ∧ k ≤ 64 ∧ Below w.heap.size w wr ∧ Blk wr w.heap.size (byA (mskL l x k)) 40) (fun i _ => match i with | .int _ z => (64 - z).toNat | _ => 0)
  case atStart => exact ⟨0, rfl, by omega, B2, X2⟩
  case round =>
    obtain ⟨k, rfl, hk, hB, hX⟩ := hrel
    by_cases hlt : k < 64
    · have hf := hX.frozen (o := k)
      have hc0 := hX.cell (byA_get (mskL l x k) k (by rw [mskL_length]; omega))
      rw [mskL_get l x k k (by omega), if_neg (by omega)] at hc0
      have hxo := u8_xor (l.getD k 0) x
      have HS : Hid _ := mskL_set l x k (by omega)
      generalize l.getD k 0 = y at *
      go_wp2
      refine ⟨⟨k + 1, by norm_cast, by omega, ?_, ?_⟩, ?_⟩
      · exact hB.setCell (Nat.le_refl _) _
      · rw [← HS.out]; exact hX.set k _
      · show (64 - ((k : Int) + 1)).toNat < (64 - (k : Int)).toNat
        omega
    · have hk64 : k = 64 := by omega
      subst hk64
      have hl64 : (mskL l x 64).length = 64 := by rw [mskL_length]; exact hKF
      rw [HR.out] at hl64 hX
      have hcv := run_convert_bytes_back (P := Tryd.prog) wr 33 9 5 ⟨w.heap.size, 0, none⟩ 64 r Tryd.underlying33 Tryd.underlying5 Tryd.underlying9 (fun j hj => by
          have := hX.cell (byA_get r j hj)
          rw [List.getD_eq_getElem?_getD, List.getElem?_eq_getElem hj] at this
          rw [Addr.add_mid]
          simpa using this)
      rw [hl64] at hcv
      go_wp2
      go_ret
      exact ⟨rfl, hB⟩
end Go.Proofs.YtdkkleikabipgaaDoor
