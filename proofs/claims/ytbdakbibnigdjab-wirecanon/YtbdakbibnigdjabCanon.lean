/- WireCanon for every text: what it answers. -/
import Derived.Test.YtbdakbibnigdjabPure5
import Derived.Test.YtbdakbibnigdjabAwake
namespace Go.Proofs.Ytbdakbibnigdjab
open Go.RowKit
set_option linter.unusedVariables false
set_option linter.unusedSimpArgs false

set_option maxRecDepth 100000 in
set_option maxHeartbeats 2000000 in
theorem canon_calls (s : ByteArray) (w : World) (hs : s.size ≤ maxLen) :
    Calls Try.prog 3 #[.string s] w fun e w' => e = .returned (.bool true) ∧ Below w.heap.size w w' := by
  have ho := of_calls s w hs
  cases hr : ofR s with
  | error er =>
    have hne : (er != 0) = true := by simpa using ofR_err hr
    rw [hr] at ho
    clear hr
    go_enter Try.func3, Try.ntmps3
    go_wp2_with fail
    refine ho.mono ?_
    rintro e w1 ⟨rfl, b1⟩
    unfold zeroBd Bd.val
    go_wp2_with fail
    refine (awake_calls _).mono ?_
    rintro e w2 ⟨rfl, b2⟩
    go_wp2
    go_ret
    exact ⟨rfl, (b1.alloc b1.size _).trans (b2.mono (by simp; have := b1.size; omega))⟩
  | ok b =>
    obtain ⟨hr0, hbd, hsz⟩ := of_canon hr
    have hlen : (bdB b).length = s.size := by rw [hbd, bytes_len]
    have heq : (⟨(bdB b).toArray⟩ : ByteArray) = s := by rw [hbd, bytes_eta]
    obtain ⟨_, _, _, _, _, hdg, htx, hll, hal⟩ := right_ok hr0
    have hsgm : ∀ m ∈ b.list, m.body.size ≤ maxLen ∧ m.sig.size ≤ maxLen := fun m hm => by
      have := okSg_of m ((List.all_eq_true.1 hal) m hm)
      exact ⟨Nat.le_trans this.2.1 (by unfold maxLen; decide), Nat.le_trans this.2.2 (by unfold maxLen; decide)⟩
    have hby := fun lv wx (hl : Sgs wx lv b.list) => bytes_calls b lv wx (Nat.le_trans hdg (by unfold maxLen; decide)) (Nat.le_trans htx (by unfold maxLen; decide)) (by omega) hl
    unfold bytesR at hby
    rw [if_pos hr0, if_neg (by omega), heq] at hby
    have HB : Hid _ := hby
    rw [hr] at ho
    clear hr hbd hlen heq hby hal hr0
    go_enter Try.func3, Try.ntmps3
    go_wp2_with fail
    refine ho.mono ?_
    rintro e w1 ⟨lv, rfl, own1, b1⟩
    obtain ⟨p, c, rfl⟩ := sgs_of_own' own1
    have hnew := bdAt_new w1 b (.slice p b.list.length c) 24
    have hsg := (sgs_of_own own1 hsgm).below ((Below.refl w1.heap.size w1).alloc (Nat.le_refl _) (.cells #[.int .i64 b.kind, .int .i64 b.view, .int .i64 b.seq, .int .i64 b.client, .int .i64 b.stamp, .string b.digest, .string b.text, .slice p b.list.length c] 24))
    have hcall := HB.out _ _ hsg
    obtain ⟨a0, a1, a2, a3, a4, a5, a6, a7, a8⟩ := hnew
    clear own1 hsg
    unfold Bd.val
    unfold Bd.val at hcall
    go_wp2_with fail
    refine hcall.mono ?_
    rintro e w2 ⟨rfl, b2⟩
    have z1 := b1.size
    have B2 := (b1.alloc z1 _).trans (b2.mono (by simp; omega))
    clear a0 a1 a2 a3 a4 a5 a6 a7 a8
    go_wp2_with fail
    refine (awake_calls _).mono ?_
    rintro e w3 ⟨rfl, b3⟩
    go_wp2
    go_ret
    exact ⟨rfl, B2.trans (b3.mono B2.size)⟩
end Go.Proofs.Ytbdakbibnigdjab
