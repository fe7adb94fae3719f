/- A hash that nobody made; the chapter's example; ShaNobody's walk. -/
import Derived.Test.YtdkkleikabipgaaDoorShI
import Derived.Test.YtdkkleikabipgaaDoorShA
namespace Go.Proofs.YtdkkleikabipgaaDoor
open Go.RowKit
set_option linter.unusedSimpArgs false
set_option linter.unusedVariables false

theorem write_nil (s : ByteArray) (w : World) :
    Calls Tryd.prog 16 #[.pointer none, .string s] w fun e w' => (∃ v, e = .returned v) ∧ w' = w := by
  go_enter Tryd.func16, Tryd.ntmps16
  go_wp2
  exact ⟨rfl, .tuple #[], by rw [results_none Tryd.results16], ⟨_, rfl⟩, rfl⟩
theorem write_zero (b : Nat) (s : ByteArray) (w : World) (c0 : w.cell? ⟨b, 0, none⟩ = some (.bool false)) :
    Calls Tryd.prog 16 #[.pointer (some ⟨b, 0, none⟩), .string s] w fun e w' => (∃ v, e = .returned v) ∧ w' = w := by
  go_enter Tryd.func16, Tryd.ntmps16
  go_wp2
  exact ⟨rfl, .tuple #[], by rw [results_none Tryd.results16], ⟨_, rfl⟩, rfl⟩
theorem sum_nil (w : World) :
    Calls Tryd.prog 15 #[.pointer none] w fun e w' => e = .returned (.string ⟨#[]⟩) ∧ w' = w := by
  go_enter Tryd.func15, Tryd.ntmps15
  go_wp2
  go_ret
  exact ⟨rfl, rfl⟩
theorem sum_zero (b : Nat) (w : World) (c0 : w.cell? ⟨b, 0, none⟩ = some (.bool false)) :
    Calls Tryd.prog 15 #[.pointer (some ⟨b, 0, none⟩)] w fun e w' => e = .returned (.string ⟨#[]⟩) ∧ w' = w := by
  go_enter Tryd.func15, Tryd.ntmps15
  go_wp2
  go_ret
  exact ⟨rfl, rfl⟩

set_option maxRecDepth 100000 in
set_option maxHeartbeats 1000000 in
theorem awake_calls (w : World) (hK : KT w) :
    Calls Tryd.prog 11 #[] w fun e w' => e = .returned (.bool true) ∧ Below w.heap.size w w' := by
  have h := shaSum_calls ⟨#[97, 98, 99]⟩ w hK (by decide)
  have e : (ByteArray.mk #[97, 98, 99]).data.toList = [97, 98, 99] := rfl
  rw [e] at h
  have h1 : (ByteArray.mk (sumL [97, 98, 99]).toArray).size = 32 := rfl
  have h2 : (((ByteArray.mk (sumL [97, 98, 99]).toArray).extract 0 4).toList == [186, 120, 22, 191]) = true := by rw [sumL_abc]; kernel_rfl
  have h3 : (((ByteArray.mk (sumL [97, 98, 99]).toArray).extract 28 32).toList == [242, 0, 21, 173]) = true := by rw [sumL_abc]; kernel_rfl
  have HS : Hid _ := h
  clear h e
  generalize ByteArray.mk (sumL [97, 98, 99]).toArray = t at *
  go_enter Tryd.func11, Tryd.ntmps11
  go_wp2_with fail
  refine Calls.mono HS.out ?_
  rintro e w1 ⟨rfl, hb1⟩
  go_wp2
  go_ret
  exact ⟨rfl, hb1⟩

set_option maxRecDepth 100000 in
set_option maxHeartbeats 1000000 in
theorem nobody_calls (s : ByteArray) (w : World) (hK : KT w) :
    Calls Tryd.prog 8 #[.string s] w fun e w' => e = .returned (.bool true) ∧ Below w.heap.size w w' := by
  obtain ⟨hz0, hz1⟩ := zero_of_info infoHash
  obtain ⟨W1, hW1⟩ : ∃ W1, w.alloc (.cells zeroHash 42) = W1 := ⟨_, rfl⟩
  have B1 : Below w.heap.size w W1 := by rw [← hW1]; exact (Below.refl _ _).alloc (Nat.le_refl _) _
  have c0 : W1.cell? ⟨w.heap.size, 0, none⟩ = some (.bool false) := by rw [← hW1]; exact (blk_new _ _ _ _ rfl).cell rfl
  have K1 : KT W1 := hK.below B1 hK.lt
  have hz := B1.size
  go_enter Tryd.func8, Tryd.ntmps8
  go_wp2_with fail
  refine (write_nil s _).mono ?_
  rintro e w1 ⟨⟨v, rfl⟩, rfl⟩
  go_wp2_with fail
  refine (write_zero _ s _ c0).mono ?_
  rintro e w1 ⟨⟨v, rfl⟩, rfl⟩
  go_wp2_with fail
  refine (sum_nil _).mono ?_
  rintro e w1 ⟨rfl, rfl⟩
  go_wp2_with fail
  refine (sum_zero _ _ c0).mono ?_
  rintro e w1 ⟨rfl, rfl⟩
  go_wp2_with fail
  refine (awake_calls _ K1).mono ?_
  rintro e w2 ⟨rfl, hb2⟩
  go_wp2
  go_ret
  exact ⟨rfl, B1.trans (hb2.mono hz)⟩
end Go.Proofs.YtdkkleikabipgaaDoor
