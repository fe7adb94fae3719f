/- The document's answer for messages: One, signed, OfSigned. -/
import Derived.Test.YtbdakbibnigdjabSgF
import Derived.Test.YtbdakbibnigdjabRefF
import Derived.Deep.RegionWith
namespace Go.Proofs.Ytbdakbibnigdjab
open Go.RowKit
set_option linter.unusedVariables false
set_option linter.unusedSimpArgs false

theorem cat2 (a b : List UInt8) : (⟨a.toArray⟩ : ByteArray) ++ (⟨b.toArray⟩ : ByteArray) = ⟨(a ++ b).toArray⟩ := by
  apply ByteArray.ext; simp [ByteArray.data_append]

set_option maxRecDepth 100000 in
set_option maxHeartbeats 2000000 in
theorem one_ref (m : Sg) (w : World) (hm : sgOk m = true) :
    Calls Try.prog 16 #[m.val] w fun e w' => e = .returned (.string ⟨(sgB m).toArray⟩) ∧ Below w.heap.size w w' := by
  have hok := hm
  unfold sgOk at hok
  simp only [Bool.and_eq_true, decide_eq_true_eq] at hok
  obtain ⟨⟨⟨hf0, hf1⟩, hb⟩, hs⟩ := hok
  obtain ⟨f, b, g⟩ := m
  simp only at hf0 hf1 hb hs
  obtain ⟨n, rfl⟩ := Int.eq_ofNat_of_zero_le hf0
  have X0 := blk_new w w.heap.size #[.int .i64 (n : Int), .string b, .string g] 34 rfl
  have Xd : Blk (w.alloc (.cells #[.int .i64 (n : Int), .string b, .string g] 34)).drew w.heap.size #[.int .i64 (n : Int), .string b, .string g] 34 := X0
  have hn := fun wx => number_ref n wx (by omega)
  have hlb := fun wx => laid_ref b wx (by omega)
  have hlg := fun wx => laid_ref g wx (by omega)
  have el := enc_le n
  have tb := txtB_len b
  have tg := txtB_len g
  unfold txtB at tb tg
  obtain ⟨E, hE⟩ : ∃ E, E = enc n := ⟨_, rfl⟩
  obtain ⟨Tb, hTb⟩ : ∃ Tb, Tb = enc b.size ++ b.data.toList := ⟨_, rfl⟩
  obtain ⟨Tg, hTg⟩ : ∃ Tg, Tg = enc g.size ++ g.data.toList := ⟨_, rfl⟩
  rw [← hTb] at hlb tb
  rw [← hTg] at hlg tg
  rw [← hE] at hn el
  have hsg : sgB ⟨(n : Int), b, g⟩ = E ++ (Tb ++ Tg) := by rw [hE, hTb, hTg]; simp [sgB, txtB]
  have c1 : ¬ 9223372036854775807 < E.length + Tb.length := by omega
  have c2 : ¬ 9223372036854775807 < E.length + Tb.length + Tg.length := by omega
  have HN : Hid _ := hn
  have HB : Hid _ := hlb
  have HG : Hid _ := hlg
  have HSG : Hid _ := hsg
  clear hE hTb hTg hn hlb hlg hsg
  unfold Sg.val
  go_enter Try.func16, Try.ntmps16
  go_wp2
  go_region_with (first
    | (go_at_call 50; refine (HN.out _).mono ?_; rintro e w1 ⟨rfl, b1⟩; have X1 := Xd.below b1; have q1 := X1.cell (o := 1) rfl; have q2 := X1.cell (o := 2) rfl)
    | (go_at_call_of 51 (Value.string b); refine (HB.out _).mono ?_; rintro e w2 ⟨rfl, b2⟩; have X2 := X1.below b2; have q3 := X2.cell (o := 2) rfl)
    | (go_at_call_of 51 (Value.string g); refine (HG.out _).mono ?_; rintro e w3 ⟨rfl, b3⟩))
  all_goals go_wp2
  all_goals go_ret
  all_goals
    have B1 : Below w.heap.size w w1 := Below.trans (show Below w.heap.size w _ by go_grown) (b1.mono (by simp))
    have B2 := B1.trans (b2.mono B1.size)
    exact ⟨by rw [HSG.out, ← List.append_assoc, ← cat2, ← cat2]; rfl, B2.trans (b3.mono B2.size)⟩
end Go.Proofs.Ytbdakbibnigdjab
