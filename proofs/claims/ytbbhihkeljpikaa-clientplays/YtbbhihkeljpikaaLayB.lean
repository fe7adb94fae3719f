/- Laying messages and bodies. -/
import Derived.Test.YtbbhihkeljpikaaRight
import Derived.Test.YtbbhihkeljpikaaTxB
namespace Go.Proofs.Ytbbhihkeljpikaa
open Go.RowKit
set_option linter.unusedVariables false
set_option linter.unusedSimpArgs false

def sgB (m : Sg) : List UInt8 := enc m.frm.toNat ++ (txtB m.body ++ txtB m.sig)
def sgsB (l : List Sg) : List UInt8 := l.flatMap sgB

theorem sgB_len (m : Sg) (h : sgOk m = true) : (sgB m).length ≤ 1048700 := by
  unfold sgOk at h
  simp at h
  unfold sgB
  have h1 := enc_le m.frm.toNat
  have h2 := txtB_len m.body
  have h3 := txtB_len m.sig
  rw [List.length_append, List.length_append]; omega

set_option maxHeartbeats 1000000 in
theorem laySigned_calls (base : Nat) (v : Value) (len : Nat) (xs : List Value) (m : Sg) (w : World) (hm : sgOk m = true)
    (hown : w.ownsRow base 5 1 v len xs) (hlen : len ≤ 100000000000) (hbase : base ≤ w.heap.size) :
    Calls Try.prog 65 #[v, m.val] w fun e w' => ∃ v', e = .returned v' ∧ w'.ownsRow base 5 1 v' (len + (sgB m).length) (xs ++ Lib.byteCells (sgB m)) ∧ Below base w w' ∧ Kp w w' := by
  have hok := hm
  unfold sgOk at hok
  simp only [Bool.and_eq_true, decide_eq_true_eq] at hok
  obtain ⟨⟨⟨hf0, hf1⟩, hb⟩, hs⟩ := hok
  obtain ⟨f, b, g⟩ := m
  simp only at hf0 hf1 hb hs
  obtain ⟨n, rfl⟩ := Int.eq_ofNat_of_zero_le hf0
  have hbox : (w.alloc (.cells #[.int .i64 (n : Int), .string b, .string g] 62)).heap[w.heap.size]? = some (.cells #[.int .i64 (n : Int), .string b, .string g] 62) := heap_alloc_new w _
  have hB0 : Below base w (w.alloc (.cells #[.int .i64 (n : Int), .string b, .string g] 62)) := (Below.refl _ _).alloc hbase _
  have hK0 : Kp w (w.alloc (.cells #[.int .i64 (n : Int), .string b, .string g] 62)) := Kp.of_below ((Below.refl _ _).alloc (Nat.le_refl _) _)
  have el := enc_le n
  have tl := txtB_len b
  have h1 := layInt_calls base v len xs n (w.alloc (.cells #[.int .i64 (n : Int), .string b, .string g] 62)) (by omega) (hown.alloc _) (by omega) (by simp; omega)
  unfold Sg.val
  have HB : Hid _ := hbox
  clear hbox
  go_enter Try.func65, Try.ntmps65
  go_wp2_with fail
  refine h1.mono ?_
  rintro e w1 ⟨v1, rfl, o1, b1, k1⟩
  have x1 := k1.cell (o := 0) HB.out (by decide)
  have c1 := cellOf (o := 1) x1 rfl
  have z1 := b1.size
  simp at z1
  have X1 : Hid _ := x1
  clear x1
  go_wp2_with fail
  refine (layText_calls base v1 _ _ b _ (by omega) o1 (by omega) (by omega)).mono ?_
  rintro e w2 ⟨v2, rfl, o2, b2, k2⟩
  have x2 := k2.cell (o := 0) X1.out (by decide)
  have c2 := cellOf (o := 2) x2 rfl
  have z2 := b2.size
  clear x2 c1
  go_wp2_with fail
  refine (layText_calls base v2 _ _ g _ (by omega) o2 ?_ (by omega)).mono ?_
  · unfold txtB at tl; omega
  rintro e w3 ⟨v3, rfl, o3, b3, k3⟩
  go_wp2
  go_ret
  refine ⟨v3, rfl, ?_, ((hB0.trans b1).trans b2).trans b3, ((hK0.trans k1).trans k2).trans k3⟩
  have e1 : sgB ⟨(n : Int), b, g⟩ = enc n ++ ((enc b.size ++ b.data.toList) ++ (enc g.size ++ g.data.toList)) := by simp [sgB, txtB]
  rw [e1]
  simp only [byteCells_append, List.length_append, List.append_assoc] at o3 ⊢
  simpa only [Nat.add_assoc] using o3
end Go.Proofs.Ytbbhihkeljpikaa
