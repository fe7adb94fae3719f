/- The document's sum: words, turns, the text filled up. -/
import Derived.Test.YtdkkleikabipgaaDoorShK
import Derived.Test.YtdkkleikabipgaaDoorShF
import Derived.Deep.RegionHeld3
namespace Go.Proofs.YtdkkleikabipgaaDoor
open Go.RowKit
set_option linter.unusedSimpArgs false
set_option linter.unusedVariables false

def inA (l : List Nat) : Array Value := (l.map fun x : Nat => Value.int .i64 (x : Int)).toArray
theorem inA_size (l : List Nat) : (inA l).size = l.length := by simp [inA]
theorem inA_get (l : List Nat) (j : Nat) (h : j < l.length) : (inA l)[j]? = some (.int .i64 ((l.getD j 0 : Nat) : Int)) := by
  simp [inA, h, List.getD_eq_getElem?_getD]

theorem refWord_raw (z : Int) (w : World) :
    Calls Tryd.prog 20 #[.int .i64 z] w fun e w' => e = .returned (.int .i64 (bits .and .i64 z 4294967295)) ∧ w' = w := by
  go_enter Tryd.func20, Tryd.ntmps20
  go_wp2
  go_ret
  exact ⟨rfl, rfl⟩
theorem refWord_calls (n : Nat) (w : World) (hn : n < 9223372036854775808) :
    Calls Tryd.prog 20 #[.int .i64 n] w fun e w' => e = .returned (.int .i64 ((n % 4294967296 : Nat) : Int)) ∧ w' = w := by
  have h := refWord_raw (n : Int) w
  rw [i64_word n hn] at h
  exact h

set_option maxHeartbeats 400000 in
theorem turn_calls (x n : Nat) (w : World) (hx : x < 4294967296) (h1 : 2 ≤ n) (h2 : n ≤ 31) :
    Calls Tryd.prog 19 #[.int .i64 x, .int .i64 n] w fun e w' => e = .returned (.int .i64 (rotR x n)) ∧ ∃ m, w' = w.drewN m := by
  have hr := rot_i64 x n hx h1 (by omega)
  have HR : Hid _ := hr
  clear hr
  go_enter Tryd.func19, Tryd.ntmps19
  go_wp2
  go_quiet ((go_at_call 20; exact Calls.quiet_of_same (refWord_raw _ _)))
  go_wp2
  go_ret
  refine ⟨ret_int ?_, _, rfl⟩
  have e : ∀ z, wrap64 z = IntKind.i64.wrap z := fun z => by rw [IntKind.wrap_i64]; unfold wrap64; rfl
  rw [e]; exact HR.out

set_option maxHeartbeats 400000 in
set_option maxRecDepth 100000 in
theorem words_calls (w : World) :
    Calls Tryd.prog 17 #[] w fun e w' => e = .returned (.slice (some ⟨w.heap.size, 0, none⟩) 64 64) ∧ Below w.heap.size w w' ∧ Blk w' w.heap.size (inA kTab) 3 := by
  go_enter Tryd.func17, Tryd.ntmps17
  go_wp2
  go_ret
  exact ⟨rfl, (Below.refl _ _).alloc (Nat.le_refl _) _, blk_new _ _ _ _ rfl⟩

theorem infoInt : (Tryd.prog.info? 3).map (fun i => (i.zero, i.size, i.bytes)) = some (some (.int .i64 0), 1, 8) := by kernel_rfl
/-- The words of a text's blocks. -/
def pwords (l : List UInt8) (k : Nat) : List Value := (List.range k).map fun i => Value.int .i64 (wordAt (padL l) i : Int)

theorem pwords_snoc (l : List UInt8) (k : Nat) : pwords l (k + 1) = pwords l k ++ [.int .i64 (wordAt (padL l) k : Int)] := by
  simp [pwords, List.range_succ]

set_option maxHeartbeats 1000000 in
set_option maxRecDepth 100000 in
theorem padded_calls (s : ByteArray) (w : World) (hs : s.size ≤ 4294967296) :
    Calls Tryd.prog 18 #[.string s] w fun e w' => ∃ v, e = .returned v ∧ Below w.heap.size w w' ∧ w'.ownsRow w.heap.size 3 1 v (16 * ((s.size + 8) / 64 + 1)) (pwords s.data.toList (16 * ((s.size + 8) / 64 + 1))) := by
  obtain ⟨cap, W1, hcv, M1, B1⟩ := text_row s w
  have hsl : s.data.toList.length = s.size := by rw [Lib.size_eq]
  have hz1 := B1.size
  have hpz : padZ s.size ≤ 63 := by unfold padZ; omega
  have hb128 : Lib.byteCells (s.data.toList ++ [128]) = Lib.byteCells s.data.toList ++ [.int .u8 128] := byteCells_snoc _ _ rfl
  go_enter Tryd.func18, Tryd.ntmps18
  go_wp2_with (with_reducible refine wpl_appM (M1.below ((Below.refl _ _).alloc (Nat.le_refl _) _) (Nat.le_refl _)) (by omega) ?hb ⟨W1.heap.size, 0, none⟩ 1 (.int .u8 128) ?hu rfl ?hs ?hx ?_)
  case hb => simp; omega
  case hu => exact (blk_new _ _ _ _ rfl).cell rfl
  case hs => rfl
  case hx => rfl
  intro v2 w2 M2 hb2
  rw [← hb128] at M2
  clear hcv M1
  have B2 : Below w.heap.size w w2 := (B1.alloc hz1 _).trans hb2
  go_wp2
  go_loopw [3] (fun v wr => ∃ j : Nat, j ≤ padZ s.size ∧ Mrow wr w.heap.size v (s.size + 1 + j) (Lib.byteCells (s.data.toList ++ [128] ++ List.replicate j 0)) ∧ Below w.heap.size w wr) (fun v _ => s.size + 65 - lenV v)
  case atStart => exact ⟨0, by omega, by simpa using M2, B2⟩
  case round =>
    obtain ⟨j, hj, ho, hB⟩ := hrel
    obtain ⟨g, cap, rfl, hg1, hg2, hcell⟩ := ho.form
    have HC : Hid _ := hcell
    clear hcell
    have HC' := HC
    obtain ⟨m, hm⟩ : ∃ m, s.size + 1 + j = m := ⟨_, rfl⟩
    rw [hm] at ho ⊢
    have hm1 : (m : Int) ≤ 4294967400 := by omega
    have hz := hB.size
    by_cases hlt : j < padZ s.size
    · have hd : (m : Int) % 64 ≠ 56 := by unfold padZ at hlt hj hpz; omega
      go_wp2_with (with_reducible refine wpl_appM (ho.below ((Below.refl _ _).alloc (Nat.le_refl _) _) (Nat.le_refl _)) (by omega) ?hb ⟨wr.heap.size, 0, none⟩ 1 (.int .u8 0) ?hu rfl ?hs ?hx ?_)
      case hb => simp; omega
      case hu => exact (blk_new _ _ _ _ rfl).cell rfl
      case hs => rfl
      case hx => rfl
      intro v3 w3 M3 hb3
      obtain ⟨g3, cap3, rfl, hg3, hg4, _⟩ := M3.form
      go_wp2
      go_roundw
      case rel =>
        refine ⟨j + 1, by omega, ?_, ((hB.alloc hz _).trans hb3)⟩
        have e : Lib.byteCells (s.data.toList ++ [128] ++ List.replicate (j + 1) 0) = Lib.byteCells (s.data.toList ++ [128] ++ List.replicate j 0) ++ [.int .u8 0] := by
          rw [List.replicate_succ', ← List.append_assoc, byteCells_snoc _ _ rfl]; rfl
        have e2 : s.size + 1 + (j + 1) = m + 1 := by omega
        rw [e, e2]; exact M3
      case measure => simp [lenV]; omega
    · have hd : (m : Int) % 64 = 56 := by unfold padZ at hlt hj hpz; omega
      have HP : Hid (s.data.toList ++ [128] ++ List.replicate j 0 ++ len8 (8 * s.size) = padL s.data.toList) := by
        have ej : j = padZ s.size := by omega
        show _ = _; rw [ej]; unfold padL padT; rw [hsl]; simp
      generalize s.data.toList ++ [128] ++ List.replicate j 0 = pre at *
      go_wp2
      clear hd
      go_loopw [3, 5] (fun v i wr => ∃ k : Nat, k ≤ 8 ∧ i = .int .i64 k ∧ Mrow wr w.heap.size v (m + k) (Lib.byteCells (pre ++ (len8 (8 * s.size)).take k)) ∧ Below w.heap.size w wr) (fun _ i _ => 8 - (intOf i).toNat)
      case atStart => exact ⟨0, by omega, rfl, by simpa using ho, hB⟩
      case round =>
        obtain ⟨k, hk, rfl, ho, hB⟩ := hrel
        have hz := hB.size
        by_cases hlt : k < 8
        · have HT : Hid (Lib.byteCells (pre ++ (len8 (8 * s.size)).take (k + 1)) = Lib.byteCells (pre ++ (len8 (8 * s.size)).take k) ++ [.int .u8 (8 * (s.size : Int) / 2 ^ (56 - 8 * k) % 256)]) := by
            show _ = _
            rw [take_snocB _ _ (by rw [len8_length]; omega), len8_get _ _ hlt, ← List.append_assoc, byteCells_snoc _ _ (n := 8 * (s.size : Int) / 2 ^ (56 - 8 * k) % 256)]
            rw [u8n, wu8]
            have e : 8 * (s.size : Int) = ((8 * s.size : Nat) : Int) := by omega
            rw [e]; simp
          go_wp2_with (with_reducible refine wpl_appM (ho.below ((Below.refl _ _).alloc (Nat.le_refl _) _) (Nat.le_refl _)) (by omega) ?hb ⟨wr.heap.size, 0, none⟩ 1 (.int .u8 (8 * (s.size : Int) / 2 ^ (56 - 8 * k) % 256)) ?hu rfl ?hs ?hx ?_)
          case hb => simp; omega
          case hu => exact (blk_new _ _ _ _ rfl).cell rfl
          case hs => rfl
          case hx => rfl
          intro v3 w3 M3 hb3
          go_wp2
          go_roundw
          case rel =>
            refine ⟨k + 1, by omega, by go_num, ?_, ((hB.alloc hz _).trans hb3)⟩
            rw [HT.out]; exact M3
          case measure => simp [intOf]; omega
        · have e8 : (len8 (8 * s.size)).take k = len8 (8 * s.size) := List.take_of_length_le (by rw [len8_length]; omega)
          have ek : k = 8 := by omega
          rw [e8, HP.out, ek] at ho
          obtain ⟨g, cap, rfl, hg1, hg2, hcell⟩ := ho.form
          have hL : m + 8 = 64 * ((s.size + 8) / 64 + 1) := by
            have := padL_length s.data.toList
            rw [hsl] at this
            rw [← this, ← HP.out]
            have := ho.1
            rw [Lib.byteCells_length] at this
            rw [HP.out, this]
          clear ek e8
          have hbytes : ∀ j, j < m + 8 → wr.cell? ⟨g, j, none⟩ = some (.int .u8 (((padL s.data.toList).getD j 0).toNat : Int)) := fun j hj => by
            refine hcell j _ ?_
            have hlen := ho.1
            rw [Lib.byteCells_length] at hlen
            simp [Lib.byteCells, List.getD_eq_getElem?_getD, show j < (padL s.data.toList).length by omega]
          have HBY : Hid _ := hbytes
          clear hcell hbytes
          generalize m + 8 = N at *
          have hN : N ≤ 4294967500 := by omega
          have HLN : Hid (N = 64 * ((s.size + 8) / 64 + 1)) := hL
          clear hL
          rename World => W5
          go_wp2
          go_loopw [6, 7] (fun v i wx => ∃ k q : Nat, q ≤ N ∧ q = 4 * k ∧ i = .int .i64 (q : Int) ∧ wx.ownsRow W5.heap.size 3 1 v k (pwords s.data.toList k) ∧ Below W5.heap.size W5 wx) (fun _ i _ => N - (intOf i).toNat)
          case atStart => exact ⟨0, 0, by omega, rfl, rfl, World.ownsRow_nil _ _ _ _, Below.refl _ _⟩
          case round =>
            obtain ⟨k, q, hk, hq, rfl, hw, hBx⟩ := hrel
            have hzx := hBx.size
            by_cases hlt : q + 3 < N
            · have hlt' : (q : Int) + 3 < N := by omega
              have hlt0 : (q : Int) < N := by omega
              have hlt1 : (q : Int) + 1 < N := by omega
              have hlt2 : (q : Int) + 2 < N := by omega
              have hnt0 : q < N := by omega
              have tn2 : ((q : Int) + 2).toNat = q + 2 := by omega
              have tn3 : ((q : Int) + 3).toNat = q + 3 := by omega
              have hwr1 : IntKind.i64.wrap ((q : Int) + 1) = (q : Int) + 1 := by rw [IntKind.wrap_i64]; omega
              have hwr2 : IntKind.i64.wrap ((q : Int) + 2) = (q : Int) + 2 := by rw [IntKind.wrap_i64]; omega
              have hwr3 : IntKind.i64.wrap ((q : Int) + 3) = (q : Int) + 3 := by rw [IntKind.wrap_i64]; omega
              have hge0 : 0 ≤ (q : Int) := by omega
              have hge1 : 0 ≤ (q : Int) + 1 := by omega
              have hge2 : 0 ≤ (q : Int) + 2 := by omega
              have hge3 : 0 ≤ (q : Int) + 3 := by omega
              have cell : ∀ j, j < N → wr.cell? ⟨g, j, none⟩ = some (.int .u8 (((padL s.data.toList).getD j 0).toNat : Int)) := fun j hj => (hBx.cell (p := ⟨g, j, none⟩) hg2).trans (HBY.out j hj)
              have c0 := cell q (by omega)
              have c1 := cell (q + 1) (by omega)
              have c2 := cell (q + 2) (by omega)
              have c3 := cell (q + 3) (by omega)
              clear cell
              have HW : Hid (wordAt (padL s.data.toList) k = ((padL s.data.toList).getD q 0).toNat * 16777216 + ((padL s.data.toList).getD (q + 1) 0).toNat * 65536 + ((padL s.data.toList).getD (q + 2) 0).toNat * 256 + ((padL s.data.toList).getD (q + 3) 0).toNat) := by show _ = _; rw [hq]; rfl
              have b0 := ((padL s.data.toList).getD q 0).toNat_lt
              have b1 := ((padL s.data.toList).getD (q + 1) 0).toNat_lt
              have b2 := ((padL s.data.toList).getD (q + 2) 0).toNat_lt
              have b3 := ((padL s.data.toList).getD (q + 3) 0).toNat_lt
              generalize ((padL s.data.toList).getD q 0).toNat = x0 at *
              generalize ((padL s.data.toList).getD (q + 1) 0).toNat = x1 at *
              generalize ((padL s.data.toList).getD (q + 2) 0).toNat = x2 at *
              generalize ((padL s.data.toList).getD (q + 3) 0).toNat = x3 at *
              obtain ⟨i0, hi, hz0, hz1', hz2⟩ := info_parts infoInt
              have hkN : k ≤ 1073741900 := by omega
              have HQ : Hid (q = 4 * k) := hq
              clear hq
              go_wp2
              go_region_held3 (fun w' => w'.cell? ⟨g, q, none⟩ = some (.int .u8 (x0 : Int)) ∧ w'.cell? ⟨g, q + 1, none⟩ = some (.int .u8 (x1 : Int)) ∧ w'.cell? ⟨g, q + 2, none⟩ = some (.int .u8 (x2 : Int)) ∧ w'.cell? ⟨g, q + 3, none⟩ = some (.int .u8 (x3 : Int))) (first | go_keep | (obtain ⟨q0, q1, q2, q3⟩ := ‹_ ∧ _ ∧ _ ∧ _›; exact ⟨(far _).trans q0, (far _).trans q1, (far _).trans q2, (far _).trans q3⟩))
                ((refine step_append_lies _ rfl (.tmp 43) (.tmp 73) 43 rfl W5.heap.size 3 i0 (.int .i64 0) 1 8 Tryd.underlying43 hi hz0 hz1' hz2 rfl (by decide) _ k _ rfl (show (World.drew _).ownsRow _ _ _ _ _ _ from hw.alloc _) ⟨wr.heap.size, 0, none⟩ 1 1 _ rfl rfl (World.news_of_block (heap_alloc_new wr _)) (by intro u hu; simp at hu; subst hu; rfl) (by decide) (by unfold maxLen; omega) (by omega) (by simp; omega) _ rfl ?_; intro g' cap' w6 hown hgrow hat hg6; have far := fun j => hgrow.cell_far ⟨g, j, none⟩ (by simp; omega) (by intro e; have h : W5.heap.size ≤ g := (hw.lt _ e.symm).1; omega)))
              go_wp2
              go_roundw
              case rel =>
                refine ⟨k + 1, q + 4, by omega, by have := HQ.out; omega, by go_num, ?_, ?_⟩
                · rw [pwords_snoc, HW.out]
                  have e : ((x0 * 16777216 + x1 * 65536 + x2 * 256 + x3 : Nat) : Int) = (x0 : Int) * 16777216 + (x1 : Int) * 65536 + (x2 : Int) * 256 + (x3 : Int) := by omega
                  rw [e]
                  have w1 : IntKind.i64.wrap (x0 : Int) = x0 := by rw [IntKind.wrap_i64]; omega
                  have w2 : IntKind.i64.wrap (x1 : Int) = x1 := by rw [IntKind.wrap_i64]; omega
                  have w3 : IntKind.i64.wrap (x2 : Int) = x2 := by rw [IntKind.wrap_i64]; omega
                  have w4 : IntKind.i64.wrap (x3 : Int) = x3 := by rw [IntKind.wrap_i64]; omega
                  have w5 : IntKind.i64.wrap ((x0 : Int) * 16777216) = (x0 : Int) * 16777216 := by rw [IntKind.wrap_i64]; omega
                  have w6' : IntKind.i64.wrap ((x1 : Int) * 65536) = (x1 : Int) * 65536 := by rw [IntKind.wrap_i64]; omega
                  have w7 : IntKind.i64.wrap ((x2 : Int) * 256) = (x2 : Int) * 256 := by rw [IntKind.wrap_i64]; omega
                  have w8 : IntKind.i64.wrap ((x0 : Int) * 16777216 + (x1 : Int) * 65536) = (x0 : Int) * 16777216 + (x1 : Int) * 65536 := by rw [IntKind.wrap_i64]; omega
                  have w9 : IntKind.i64.wrap ((x0 : Int) * 16777216 + (x1 : Int) * 65536 + (x2 : Int) * 256) = (x0 : Int) * 16777216 + (x1 : Int) * 65536 + (x2 : Int) * 256 := by rw [IntKind.wrap_i64]; omega
                  have w10 : IntKind.i64.wrap ((x0 : Int) * 16777216 + (x1 : Int) * 65536 + (x2 : Int) * 256 + (x3 : Int)) = (x0 : Int) * 16777216 + (x1 : Int) * 65536 + (x2 : Int) * 256 + (x3 : Int) := by rw [IntKind.wrap_i64]; omega
                  rw [w1, w2, w3, w4, w5, w6', w7, w8, w9, w10] at hown
                  exact hown
                · exact ((hBx.alloc hzx _).drew).grown hgrow (by simp; omega) (fun j hj => (hw.lt j hj).1)
              case measure => simp [intOf]; omega
            · have hkq : k = 16 * ((s.size + 8) / 64 + 1) := by have := HLN.out; omega
              rw [hkq] at hw
              clear hkq
              have HQ : Hid (q = 4 * k) := hq
              clear hq
              go_wp2
              go_ret
              exact ⟨_, rfl, hB.trans (hBx.mono hB.size), hw.1, hw.2.imp id (fun ⟨g', cap', cur', e1, e2, e3⟩ => ⟨g', cap', cur', e1, by omega, e3⟩)⟩
end Go.Proofs.YtdkkleikabipgaaDoor
