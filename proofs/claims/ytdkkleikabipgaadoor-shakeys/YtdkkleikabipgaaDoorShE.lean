/- The state's words as a text, what fills the last block, a new hash. -/
import Derived.Test.YtdkkleikabipgaaDoorShD
import Derived.Deep.RegionHeldLaw
import Derived.Deep.AppendLies
namespace Go.Proofs.YtdkkleikabipgaaDoor
open Go.RowKit
set_option linter.unusedSimpArgs false
set_option linter.unusedVariables false

theorem infoByte : (Tryd.prog.info? 5).map (fun i => (i.zero, i.size, i.bytes)) = some (some (.int .u8 0), 1, 1) := by kernel_rfl

def outs (ls : List Nat) : List UInt8 := ls.flatMap w4
theorem outs_stL (s : St) : outs (stL s) = outL s := by simp [outs, stL, outL]

theorem wu8 (n : Int) : IntKind.u8.wrap n = n % 256 := by simp [IntKind.wrap, IntKind.bits, IntKind.signed]
theorem u8n (n : Nat) : ((UInt8.ofNat n).toNat : Int) = IntKind.u8.wrap (n : Int) := by rw [wu8, UInt8.toNat_ofNat']; omega
theorem w4_cells (x : Nat) : Lib.byteCells (w4 x) = #[Value.int .u8 (IntKind.u8.wrap ((x : Int) / 16777216)), .int .u8 (IntKind.u8.wrap ((x : Int) / 65536)), .int .u8 (IntKind.u8.wrap ((x : Int) / 256)), .int .u8 (IntKind.u8.wrap (x : Int))].toList := by
  have e1 : ((x : Int) / 16777216) = ((x / 16777216 : Nat) : Int) := by omega
  have e2 : ((x : Int) / 65536) = ((x / 65536 : Nat) : Int) := by omega
  have e3 : ((x : Int) / 256) = ((x / 256 : Nat) : Int) := by omega
  rw [e1, e2, e3, ← u8n, ← u8n, ← u8n, ← u8n]
  rfl
theorem byteCells_append (d e : List UInt8) : Lib.byteCells (d ++ e) = Lib.byteCells d ++ Lib.byteCells e := by
  simp [Lib.byteCells]
theorem outs_snoc (ls : List Nat) (k : Nat) (h : k < ls.length) : Lib.byteCells (outs (ls.take (k + 1))) = Lib.byteCells (outs (ls.take k)) ++ #[Value.int .u8 (IntKind.u8.wrap ((ls.getD k 0 : Int) / 16777216)), .int .u8 (IntKind.u8.wrap ((ls.getD k 0 : Int) / 65536)), .int .u8 (IntKind.u8.wrap ((ls.getD k 0 : Int) / 256)), .int .u8 (IntKind.u8.wrap (ls.getD k 0 : Int))].toList := by
  rw [← w4_cells, ← byteCells_append]
  congr 1
  unfold outs
  rw [List.take_succ_eq_append_getElem h, List.flatMap_append, List.getD_eq_getElem?_getD, List.getElem?_eq_getElem h]
  simp
/-- A row of bytes as a string. -/
theorem own_convert {base n : Nat} {v : Value} {l : List UInt8} {w : World} (h : w.ownsRow base 5 1 v n (Lib.byteCells l)) :
    (convert 33 9 v).run Tryd.prog w = .ok (.string ⟨l.toArray⟩) w := by
  have hl : l.length = n := by have := h.1; simpa [Lib.byteCells] using this
  obtain ⟨_, h2⟩ := id h
  rcases h2 with ⟨rfl, rfl⟩ | ⟨g, cap, cur, rfl, h3⟩
  · have e : l = [] := List.eq_nil_of_length_eq_zero hl
    subst e
    rw [run_convert_bytes_string w 33 9 5 none 0 0 Tryd.underlying33 Tryd.underlying5 Tryd.underlying9]
    simp [Conv.bytesToString]
    rfl
  · subst hl
    refine run_convert_bytes_back w 33 9 5 ⟨g, 0, none⟩ cap l Tryd.underlying33 Tryd.underlying5 Tryd.underlying9 ?_
    intro j hj
    refine h.cells rfl j _ ?_
    simp [Lib.byteCells, hj]

set_option maxHeartbeats 1000000 in
set_option maxRecDepth 100000 in
theorem text_calls (s : St) (w : World) (hs : s.fits) :
    Calls Tryd.prog 24 #[.agg (woA (stL s))] w fun e w' => e = .returned (.string ⟨(outL s).toArray⟩) ∧ Below w.heap.size w w' := by
  obtain ⟨i0, hi, hz0, hz1, hz2⟩ := info_parts infoByte
  have hL := stL_length s
  rw [← outs_stL]
  generalize stL s = ls at *
  go_enter Tryd.func24, Tryd.ntmps24
  go_wp2
  go_loopw [3, 5] (fun v i wr => ∃ k : Nat, k ≤ 8 ∧ i = .int .i64 k ∧ wr.ownsRow (w.heap.size + 1) 5 1 v (4 * k) (Lib.byteCells (outs (ls.take k))) ∧ Below w.heap.size w wr ∧ Blk wr w.heap.size (woA ls) 38) (fun _ i _ => 8 - (intOf i).toNat)
  case atStart =>
    refine ⟨0, by omega, rfl, ⟨rfl, Or.inl ⟨rfl, rfl⟩⟩, (Below.refl _ _).alloc (Nat.le_refl _) _, blk_new _ _ _ _ rfl⟩
  case round =>
    obtain ⟨k, hk, rfl, ho, hB, X0⟩ := hrel
    by_cases hlt : k < 8
    · have c0 := X0.cell (woA_get ls k (by omega))
      have hn0 := X0.lt
      have HT : Hid (Lib.byteCells (outs (ls.take (k + 1))) = _) := outs_snoc ls k (by omega)
      generalize ls.getD k 0 = x at *
      go_wp2
      have hod : wr.ownsRow (w.heap.size + 1) 5 1 _ (4 * k) (Lib.byteCells (outs (ls.take k))) := ho
      go_region_held_law (fun w' => w'.cell? ⟨w.heap.size, k, none⟩ = some (.int .u32 (x : Int))) (first | go_keep | exact (hgrow.cell_far ⟨w.heap.size, k, none⟩ (by simp; omega) (by intro e; have h : w.heap.size + 1 ≤ w.heap.size := (hod.lt _ e.symm).1; omega)).trans (by assumption))
        ((refine step_append_lies _ rfl (.tmp 8) (.tmp 28) 33 rfl (w.heap.size + 1) 5 i0 (.int .u8 0) 1 1 Tryd.underlying33 hi hz0 hz1 hz2 rfl (by decide) _ (4 * k) _ rfl (show (World.drew _).ownsRow _ _ _ _ _ _ from hod.alloc _) ⟨wr.heap.size, 0, none⟩ 4 4 _ rfl rfl (World.news_of_block (heap_alloc_new wr _)) (by intro u hu; simp at hu; rcases hu with rfl | rfl | rfl | rfl <;> rfl) (by decide) (by unfold maxLen; omega) (by omega) (by simp; omega) _ rfl ?_; intro g cap w1 hown hgrow hat hg1))
      go_wp2
      go_roundw
      case rel =>
        refine ⟨k + 1, by omega, by go_num, ?_, ?_, ?_⟩
        · rw [HT.out]; exact hown
        · have hz := hB.size
          exact ((hB.alloc (by omega) _).drew).grown hgrow (by simp; omega) (fun j hj => by have := (hod.lt j hj).1; omega)
        · exact (hgrow.block _ (by simp; omega) (by intro e; have h : w.heap.size + 1 ≤ w.heap.size := (hod.lt _ e.symm).1; omega)).trans (X0.alloc _)
      case measure => simp [intOf]; omega
    · have e8 : ls.take k = ls := List.take_of_length_le (by omega)
      rw [e8] at ho
      have hcv := own_convert ho
      go_wp2
      go_ret
      exact ⟨rfl, hB⟩
end Go.Proofs.YtdkkleikabipgaaDoor
