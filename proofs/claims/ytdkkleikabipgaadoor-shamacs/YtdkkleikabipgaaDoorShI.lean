/- The sum of what a hash has taken; the sum of a text. -/
import Derived.Test.YtdkkleikabipgaaDoorShH
namespace Go.Proofs.YtdkkleikabipgaaDoor
open Go.RowKit
set_option linter.unusedSimpArgs false
set_option linter.unusedVariables false

def zeroHash : Array Value := hashA false ⟨0, 0, 0, 0, 0, 0, 0, 0⟩ 0 (List.replicate 64 0)
theorem infoHash : (Tryd.prog.info? 42).map (fun i => (i.zero, i.size)) = some (some (.agg zeroHash), 74) := by kernel_rfl
theorem hashA_one (b : Bool) (s : St) (n : Nat) (r : List UInt8) : (hashA b s n r).all (·.oneCell') = true :=
  all_oneCell_toArray (fun v hv => by
    simp only [stL, List.map_cons, List.map_nil, List.cons_append, List.nil_append, List.mem_cons, Lib.byteCells, List.mem_map] at hv
    rcases hv with rfl | rfl | rfl | rfl | rfl | rfl | rfl | rfl | rfl | rfl | ⟨x, _, rfl⟩ <;> rfl)
theorem stOf_pad (l : List UInt8) : outL (stOf (l ++ padT l.length)) = sumL l := by
  have h : (l ++ padT l.length).length = 64 * ((l.length + 8) / 64 + 1) := padL_length l
  unfold stOf sumL padL
  rw [h, Nat.mul_div_cancel_left _ (by decide)]

set_option maxHeartbeats 1000000 in
set_option maxRecDepth 100000 in
theorem sum_calls (b : Nat) (l : List UInt8) (w : World) (hH : HashAt w b l) (hK : KT w) (hl : l.length ≤ 400000000000000) :
    Calls Tryd.prog 15 #[.pointer (some ⟨b, 0, none⟩)] w fun e w' => e = .returned (.string ⟨(sumL l).toArray⟩) ∧ Below w.heap.size w w' := by
  obtain ⟨r, h1, h2, X⟩ := hH.blk
  have hgl := hK.lt
  obtain ⟨hz0, hz1⟩ := zero_of_info infoHash
  have c0 : w.cell? ⟨b, 0, none⟩ = some (.bool true) := X.cell rfl
  have hzA : (Tryd.prog.info? 42).map (·.size) = some (hashA true (stOf l) l.length r).size := by rw [hashA_size, h1]; kernel_rfl
  have hsA : zeroHash.size = (hashA true (stOf l) l.length r).size := by rw [hashA_size, h1]; rfl
  have hoA := hashA_one true (stOf l) l.length r
  obtain ⟨W1, hW1⟩ : ∃ W1, w.alloc (.cells (hashA true (stOf l) l.length r) 42) = W1 := ⟨_, rfl⟩
  have B1 : Below w.heap.size w W1 := by rw [← hW1]; exact (Below.refl _ _).alloc (Nat.le_refl _) _
  have hS1 : W1.heap.size = w.heap.size + 1 := by rw [← hW1]; simp
  have c9 : W1.cell? ⟨b, 9, none⟩ = some (.int .u64 (l.length : Int)) := by rw [B1.cell (p := ⟨b, 9, none⟩) X.lt]; exact X.cell rfl
  have H1 : HashAt W1 w.heap.size l := by rw [← hW1]; exact ⟨r, h1, h2, blk_new _ _ _ _ rfl⟩
  have K1 : KT W1 := hK.below B1 hgl
  have hpl := padT_length l.length
  have hpz : padZ l.length ≤ 63 := by unfold padZ; omega
  have hpsz : (ByteArray.mk (padT l.length).toArray).size = padZ l.length + 9 := by rw [← hpl]; rfl
  generalize hA : hashA true (stOf l) l.length r = A at *
  clear hA
  go_enter Tryd.func15, Tryd.ntmps15
  go_wp2_with (first | ((with_reducible refine wpl_load (ty := 42) X Tryd.underlying42 rfl hzA ?_ ?_); rfl) | ((with_reducible refine wpl_store (ty := 42) (blk_new _ _ _ _ rfl) hzA hsA hoA ?_ ?_ ?_); rfl; rfl; rw [World.setRow_alloc_new]))
  refine (end_calls l.length _ (by omega)).mono ?_
  rintro e w2 ⟨rfl, hb2⟩
  have hz2 := hb2.size
  have H2 := H1.below hb2 (by omega)
  have K2 := K1.below hb2 (by omega)
  have hw := write_calls w.heap.size l ⟨(padT l.length).toArray⟩ w2 H2 K2 (by omega) (by rw [hpsz]; omega) (by omega)
  have HW : Hid _ := hw
  clear hw hW1
  have HT : Hid (outL (stOf (l ++ padT l.length)) = sumL l) := stOf_pad l
  go_wp2_with fail
  refine Calls.mono HW.out ?_
  rintro e w3 ⟨⟨v, rfl⟩, ho3, H3⟩
  obtain ⟨r3, h31, h32, X3⟩ := H3.blk
  have hfit : (stOf (l ++ padT l.length)).fits := comps_fits _ h0s_fits _ _
  have hl38 : (Instr.loadAt 38 (.pointer (some ⟨w.heap.size, 1, none⟩))).run Tryd.prog w3 = .ok (.agg (woA (stL (stOf (l ++ padT l.length))))) w3 :=
    run_loadAt_mid (P := Tryd.prog) w3 w.heap.size 1 38 ((stL (stOf (l ++ padT l.length))).map fun x : Nat => Value.int .u32 (x : Int)) _ (hash_state X3) Tryd.underlying38 rfl (by kernel_rfl)
  have HX := fun wx => text_calls (stOf (l ++ padT l.length)) wx hfit
  have HX' : Hid _ := HX
  clear HX X3 h32
  rw [HT.out] at HX'
  generalize woA (stL (stOf (l ++ padT l.length))) = G at *
  go_wp2_with ((with_reducible refine wpl_loadMid hl38 ?_ ?_); rfl)
  refine (HX'.out _).mono ?_
  rintro e w4 ⟨rfl, hb4⟩
  go_wp2
  go_ret
  refine ⟨rfl, ?_⟩
  have hz3 := ho3.size
  have B2 : Below w.heap.size w w2 := B1.trans (hb2.mono (by omega))
  have B3 : Below w.heap.size w w3 := ho3.below (Nat.le_refl _) B2 (by omega)
  exact B3.trans (hb4.mono (by omega))

set_option maxHeartbeats 1000000 in
set_option maxRecDepth 100000 in
theorem shaSum_calls (s : ByteArray) (w : World) (hK : KT w) (hs : s.size ≤ 4294967296) :
    Calls Tryd.prog 9 #[.string s] w fun e w' => e = .returned (.string ⟨(sumL s.data.toList).toArray⟩) ∧ Below w.heap.size w w' := by
  have hgl := hK.lt
  go_enter Tryd.func9, Tryd.ntmps9
  go_wp2_with fail
  refine (new_calls _).mono ?_
  rintro e w1 ⟨b, rfl, hb, hb1, H1⟩
  have hw := write_calls b [] s w1 H1 (hK.below hb1 hgl) (by omega) hs (by simp)
  have HW : Hid _ := hw
  clear hw
  go_wp2_with fail
  refine Calls.mono HW.out ?_
  rintro e w2 ⟨⟨v, rfl⟩, ho2, H2⟩
  have hsl : s.data.toList.length = s.size := by rw [Lib.size_eq]
  have hsum := sum_calls b _ w2 H2 ((hK.below hb1 hgl).off ho2 (by omega)) (by rw [List.nil_append, hsl]; omega)
  rw [List.nil_append] at hsum
  have HS : Hid _ := hsum
  clear hsum
  go_wp2_with fail
  refine Calls.mono HS.out ?_
  rintro e w3 ⟨rfl, hb3⟩
  go_wp2
  go_ret
  refine ⟨rfl, ?_⟩
  have hz1 := hb1.size
  have hz2 := ho2.size
  exact (ho2.below hb hb1 (by omega)).trans (hb3.mono (by omega))
end Go.Proofs.YtdkkleikabipgaaDoor
