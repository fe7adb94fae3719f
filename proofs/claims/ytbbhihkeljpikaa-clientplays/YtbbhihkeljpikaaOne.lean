/- The document's bytes of a message: one walk for every order. -/
import Derived.Test.YtbbhihkeljpikaaRef1
import Derived.Test.YtbbhihkeljpikaaPure5
import Derived.Test.YtbbhihkeljpikaaQtS
import Derived.Test.YtbbhihkeljpikaaRdB
namespace Go.Proofs.Ytbbhihkeljpikaa
open Go.RowKit
set_option linter.unusedVariables false
set_option linter.unusedSimpArgs false

theorem cat2 (a b : List UInt8) : (⟨a.toArray⟩ : ByteArray) ++ (⟨b.toArray⟩ : ByteArray) = ⟨(a ++ b).toArray⟩ := by
  apply ByteArray.ext; simp [ByteArray.data_append]
theorem laid_txt (t : ByteArray) (w : World) (ht : t.size ≤ 100000000000) :
    Calls Try.prog 46 #[.string t] w fun e w' => e = .returned (.string ⟨(txtB t).toArray⟩) ∧ Below w.heap.size w w' := laid_ref t w ht

set_option maxRecDepth 100000 in
set_option maxHeartbeats 1000000 in
theorem one_ref (m : Sg) (w : World) (hm : sgOk m = true) :
    Calls Try.prog 29 #[m.val] w fun e w' => e = .returned (.string ⟨(sgB m).toArray⟩) ∧ Below w.heap.size w w' := by
  have hok := hm
  unfold sgOk at hok
  simp only [Bool.and_eq_true, decide_eq_true_eq] at hok
  obtain ⟨⟨⟨hf0, hf1⟩, hb⟩, hs⟩ := hok
  obtain ⟨f, b, g⟩ := m
  simp only at hf0 hf1 hb hs
  obtain ⟨n, rfl⟩ := Int.eq_ofNat_of_zero_le hf0
  have X0 := blk_new w w.heap.size #[.int .i64 (n : Int), .string b, .string g] 62 rfl
  obtain ⟨W, hW⟩ : ∃ W, w.alloc (.cells #[.int .i64 (n : Int), .string b, .string g] 62) = W := ⟨_, rfl⟩
  have hB0 : Below w.heap.size w W := by rw [← hW]; go_grown
  rw [hW] at X0
  have y0 := fun y : BW W => y.cell (X0.cell (o := 0) rfl)
  have y1 := fun y : BW W => y.cell (X0.cell (o := 1) rfl)
  have y2 := fun y : BW W => y.cell (X0.cell (o := 2) rfl)
  have HN : Hid (∀ wx, Calls Try.prog 45 #[.int .i64 n] wx fun e w' => e = .returned (.string ⟨(enc n).toArray⟩) ∧ Below wx.heap.size wx w') := fun wx => number_ref n wx (by omega)
  have HB : Hid (∀ wx, Calls Try.prog 46 #[.string b] wx fun e w' => e = .returned (.string ⟨(txtB b).toArray⟩) ∧ Below wx.heap.size wx w') := fun wx => laid_txt b wx (by omega)
  have HG : Hid (∀ wx, Calls Try.prog 46 #[.string g] wx fun e w' => e = .returned (.string ⟨(txtB g).toArray⟩) ∧ Below wx.heap.size wx w') := fun wx => laid_txt g wx (by omega)
  have el := enc_le n
  have tb := txtB_len b
  have tg := txtB_len g
  have hsg : sgB ⟨(n : Int), b, g⟩ = enc n ++ txtB b ++ txtB g := by simp [sgB]
  have HSG : Hid _ := hsg
  obtain ⟨E, hE⟩ : ∃ E, E = enc n := ⟨_, rfl⟩
  obtain ⟨Tb, hTb⟩ : ∃ Tb, Tb = txtB b := ⟨_, rfl⟩
  obtain ⟨Tg, hTg⟩ : ∃ Tg, Tg = txtB g := ⟨_, rfl⟩
  rw [← hE] at HN el HSG
  rw [← hTb] at HB tb HSG
  rw [← hTg] at HG tg HSG
  clear hE hTb hTg hsg
  have c1 : ¬ 9223372036854775807 < E.length + Tb.length := by omega
  have c2 : ¬ 9223372036854775807 < E.length + Tb.length + Tg.length := by omega
  have hne := bw_some W
  unfold Sg.val
  go_enter Try.func29, Try.ntmps29
  go_wp2
  refine wp_region_below (by kernel_rfl) (by kernel_rfl) ?_
  repeat (quiet_step (first
    | (go_at_call 45; exact BW.call _ (HN.out _))
    | (go_at_call_of 46 (Value.string b); exact BW.call _ (HB.out _))
    | (go_at_call_of 46 (Value.string g); exact BW.call _ (HG.out _))))
  refine wpQuiet_nil ?_
  rintro _ ⟨⟨w5, b5⟩, rfl⟩
  have B5 := hB0.trans (b5.mono hB0.size)
  go_wp2
  go_ret
  exact ⟨by rw [HSG.out, ← cat2, ← cat2]; rfl, B5⟩
end Go.Proofs.Ytbbhihkeljpikaa
