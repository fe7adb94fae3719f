/- A hash in memory; a new one. -/
import Derived.Test.YtdkkleikabipgaaDoorShE
namespace Go.Proofs.YtdkkleikabipgaaDoor
open Go.RowKit
set_option linter.unusedSimpArgs false
set_option linter.unusedVariables false

/-- The cells of a hash: made, the state, the size, the bytes that fill no block yet. -/
def hashA (b : Bool) (s : St) (n : Nat) (r : List UInt8) : Array Value := (Value.bool b :: ((stL s).map (fun x : Nat => Value.int .u32 (x : Int)) ++ (Value.int .u64 (n : Int) :: Lib.byteCells r))).toArray
theorem hashA_size (b : Bool) (s : St) (n : Nat) (r : List UInt8) : (hashA b s n r).size = 10 + r.length := by
  simp [hashA, stL, Lib.byteCells]; omega
/-- A hash that has taken l. -/
structure HashAt (w : World) (b : Nat) (l : List UInt8) : Prop where
  blk : ∃ r : List UInt8, r.length = 64 ∧ r.take (l.length % 64) = l.drop (64 * (l.length / 64)) ∧ Blk w b (hashA true (stOf l) l.length r) 42
theorem HashAt.lt {w : World} {b : Nat} {l : List UInt8} (h : HashAt w b l) : b < w.heap.size := by
  obtain ⟨r, _, _, X⟩ := h.blk; exact X.lt
theorem HashAt.below {w w' : World} {b : Nat} {l : List UInt8} (h : HashAt w b l) {B : Nat} (hb : Below B w w') (hB : b < B) : HashAt w' b l := by
  obtain ⟨r, h1, h2, X⟩ := h.blk; exact ⟨r, h1, h2, (hb.block b hB).trans X⟩

theorem wpl_build {P : Program} {ops : Array Oper} {rest : List Oper} {dst : Option Tmp} {type : TypeId} {pos : String} {after : Array Edge} {a : Act} {w : World} {Q : Exit → Act → World → Prop} {t : TypeId} {parts : Array (Nat × Operand)}
    (cs : Array Value) (hf : P.built t (parts.map fun (i, x) => (i, a.eval x)).toList = some cs) (h : wpList P ops Q rest (a.put dst (.agg cs)) w) :
    wpList P ops Q ({ dst := dst, op := .build t parts, type := type, pos := pos, after := after, guard := none } :: rest) a w :=
  wpList_build (o := { dst := dst, op := .build t parts, type := type, pos := pos, after := after, guard := none }) rfl t parts rfl (by rw [hf]; rfl) (by rw [hf]; exact h)

set_option maxHeartbeats 1000000 in
set_option maxRecDepth 100000 in
theorem first_calls (w : World) :
    Calls Tryd.prog 22 #[] w fun e w' => e = .returned (.agg (woA (stL h0s))) ∧ Below w.heap.size w w' := by
  have hi : (Tryd.prog.info? 38).map (·.size) = some (woA (stL h0s)).size := by rw [woA_size]; kernel_rfl
  go_enter Tryd.func22, Tryd.ntmps22
  go_wp2
  refine bodyPost_ret (v := .agg (woA (stL h0s))) (results_cell_row Tryd.results22 _ _ w.heap.size 38 (woA (stL h0s)) (0, 0) _ (by simp [go_sem]) (heap_alloc_new w _) Tryd.underlying38 rfl hi) rfl ⟨rfl, (Below.refl _ _).alloc (Nat.le_refl _) _⟩

set_option maxHeartbeats 1000000 in
set_option maxRecDepth 100000 in
theorem new_calls (w : World) :
    Calls Tryd.prog 14 #[] w fun e w' => ∃ b, e = .returned (.pointer (some ⟨b, 0, none⟩)) ∧ w.heap.size ≤ b ∧ Below w.heap.size w w' ∧ HashAt w' b [] := by
  go_enter Tryd.func14, Tryd.ntmps14
  go_wp2_with fail
  refine (first_calls _).mono ?_
  rintro e w1 ⟨rfl, hb1⟩
  go_wp2_with ((with_reducible refine wpl_build (t := 42) (hashA true h0s 0 (List.replicate 64 0)) ?_ ?_); kernel_rfl)
  go_ret
  exact ⟨w1.heap.size, rfl, hb1.size, hb1.alloc hb1.size _, ⟨List.replicate 64 0, rfl, rfl, blk_new _ _ _ _ rfl⟩⟩

theorem len8_get (m k : Nat) (hk : k < 8) : (len8 m).getD k 0 = UInt8.ofNat (m / 2 ^ (56 - 8 * k)) := by
  match k, hk with
  | 0, _ => rfl
  | 1, _ => rfl
  | 2, _ => rfl
  | 3, _ => rfl
  | 4, _ => rfl
  | 5, _ => rfl
  | 6, _ => rfl
  | 7, _ => simp [len8]
theorem take_snocB (l : List UInt8) (k : Nat) (h : k < l.length) : l.take (k + 1) = l.take k ++ [l.getD k 0] := by
  rw [List.take_succ_eq_append_getElem h, List.getD_eq_getElem?_getD, List.getElem?_eq_getElem h]; rfl
theorem byteCells_snoc (d : List UInt8) (c : UInt8) {n : Int} (h : (c.toNat : Int) = n) : Lib.byteCells (d ++ [c]) = Lib.byteCells d ++ [.int .u8 n] := by
  simp [Lib.byteCells, h]
def lenV : Value → Nat
  | .slice _ n _ => n
  | _ => 0

set_option maxHeartbeats 1000000 in
set_option maxRecDepth 100000 in
theorem end_calls (n : Nat) (w : World) (hn : n < 1152921504606846976) :
    Calls Tryd.prog 23 #[.int .u64 n] w fun e w' => e = .returned (.string ⟨(padT n).toArray⟩) ∧ Below w.heap.size w w' := by
  obtain ⟨i0, hi, hz0, hz1, hz2⟩ := info_parts infoByte
  have hpz : padZ n ≤ 63 := by unfold padZ; omega
  go_enter Tryd.func23, Tryd.ntmps23
  go_wp2
  go_loopw [3] (fun v wr => ∃ j : Nat, j ≤ padZ n ∧ wr.ownsRow w.heap.size 5 1 v (1 + j) (Lib.byteCells (128 :: List.replicate j 0)) ∧ Below w.heap.size w wr) (fun v _ => 65 - lenV v)
  case atStart =>
    refine ⟨0, by omega, ⟨rfl, Or.inr ⟨w.heap.size, 1, _, rfl, Nat.le_refl _, heap_alloc_new _ _, by decide, by decide, rfl, rfl⟩⟩, (Below.refl _ _).alloc (Nat.le_refl _) _⟩
  case round =>
    obtain ⟨j, hj, ho, hB⟩ := hrel
    obtain ⟨g, cap, rfl, hg1, hg2⟩ := ho.form (by omega)
    obtain ⟨m, hm⟩ : ∃ m, 1 + j = m := ⟨_, rfl⟩
    rw [hm] at ho ⊢
    have hm1 : (m : Int) ≤ 64 := by omega
    by_cases hlt : j < padZ n
    · have hd : ((n : Int) + (m : Int)) % 64 ≠ 56 := by unfold padZ at hlt hj hpz; omega
      go_wp2_with (at_builtin; refine wpList_append_own _ rfl (.tmp 13) (.tmp 14) 33 rfl w.heap.size 5 i0 (.int .u8 0) 1 1 Tryd.underlying33 hi hz0 hz1 hz2 rfl (by decide) _ _ _ rfl (ho.alloc _) ⟨wr.heap.size, 0, none⟩ 1 1 [.int .u8 0] rfl rfl ?c1 ?c2 ?c3 ?c4 ?c5 ?_)
      case c1 => exact cell_one_new _ _ _
      case c2 => intro u hu; simp at hu; subst hu; rfl
      case c3 => unfold maxLen; omega
      case c4 => omega
      case c5 => have := hB.size; simp; omega
      intro v' w1 hown' hgrow _
      obtain ⟨g', cap', rfl, hg3, hg4⟩ := hown'.form (by omega)
      go_wp2
      go_roundw
      case rel =>
        refine ⟨j + 1, by omega, ?_, ?_⟩
        · have e : Lib.byteCells (128 :: List.replicate (j + 1) 0) = Lib.byteCells (128 :: List.replicate j 0) ++ [.int .u8 0] := by
            rw [List.replicate_succ', ← List.cons_append, byteCells_snoc _ _ rfl]; rfl
          have e2 : 1 + (j + 1) = m + 1 := by omega
          rw [e, e2]; exact hown'
        · have hz := hB.size
          exact (hB.alloc (by omega) _).grown hgrow (by simp; omega) (fun k hk => (ho.lt k hk).1)
      case measure => simp [lenV]; omega
    · have hd : ((n : Int) + (m : Int)) % 64 = 56 := by unfold padZ at hlt hj hpz; omega
      have HP : Hid (128 :: List.replicate j 0 ++ len8 (8 * n) = padT n) := by
        have ej : j = padZ n := by omega
        show _ = _; rw [ej]; rfl
      generalize (128 :: List.replicate j 0 : List UInt8) = pre at *
      go_wp2
      clear hd
      go_loopw [3, 16] (fun v i wr => ∃ k : Nat, k ≤ 8 ∧ i = .int .i64 k ∧ wr.ownsRow w.heap.size 5 1 v (m + k) (Lib.byteCells (pre ++ (len8 (8 * n)).take k)) ∧ Below w.heap.size w wr) (fun _ i _ => 8 - (intOf i).toNat)
      case atStart => exact ⟨0, by omega, rfl, by simpa using ho, hB⟩
      case round =>
        obtain ⟨k, hk, rfl, ho, hB⟩ := hrel
        by_cases hlt : k < 8
        · have HT : Hid (Lib.byteCells (pre ++ (len8 (8 * n)).take (k + 1)) = Lib.byteCells (pre ++ (len8 (8 * n)).take k) ++ [.int .u8 ((n : Int) * 8 / 2 ^ (56 - 8 * k) % 256)]) := by
            show _ = _
            rw [take_snocB _ _ (by rw [len8_length]; omega), len8_get _ _ hlt, ← List.append_assoc, byteCells_snoc _ _ (n := (n : Int) * 8 / 2 ^ (56 - 8 * k) % 256)]
            rw [u8n, wu8]
            have e : (n : Int) * 8 = ((8 * n : Nat) : Int) := by omega
            rw [e]; simp
          go_wp2_with (at_builtin; refine wpList_append_own _ rfl (.tmp 19) (.tmp 27) 33 rfl w.heap.size 5 i0 (.int .u8 0) 1 1 Tryd.underlying33 hi hz0 hz1 hz2 rfl (by decide) _ _ _ rfl (ho.alloc _) ⟨wr.heap.size, 0, none⟩ 1 1 [.int .u8 ((n : Int) * 8 / 2 ^ (56 - 8 * k) % 256)] rfl rfl ?c1 ?c2 ?c3 ?c4 ?c5 ?_)
          case c1 => exact cell_one_new _ _ _
          case c2 => intro u hu; simp at hu; subst hu; rfl
          case c3 => unfold maxLen; omega
          case c4 => omega
          case c5 => have := hB.size; simp; omega
          intro v' w1 hown' hgrow _
          go_wp2
          go_roundw
          case rel =>
            refine ⟨k + 1, by omega, by go_num, ?_, ?_⟩
            · rw [HT.out]; exact hown'
            · have hz := hB.size
              exact (hB.alloc (by omega) _).grown hgrow (by simp; omega) (fun k hk => (ho.lt k hk).1)
          case measure => simp [intOf]; omega
        · have e8 : (len8 (8 * n)).take k = len8 (8 * n) := List.take_of_length_le (by rw [len8_length]; omega)
          rw [e8] at ho
          have hcv := own_convert ho
          go_wp2
          go_ret
          exact ⟨by rw [← HP.out]; rfl, hB⟩
end Go.Proofs.YtdkkleikabipgaaDoor
