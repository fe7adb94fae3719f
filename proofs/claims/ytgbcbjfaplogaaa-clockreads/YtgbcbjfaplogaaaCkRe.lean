/- ClockReads: it answers true. -/
import Derived.Test.YtgbcbjfaplogaaaCkO3
import Derived.Test.YtgbcbjfaplogaaaCkTw
import Derived.Test.YtgbcbjfaplogaaaCkE
namespace Go.Proofs.Ytgbcbjfaplogaaa
open Go.RowKit
set_option linter.unusedSimpArgs false
set_option linter.unusedVariables false

set_option maxRecDepth 100000 in
set_option maxHeartbeats 1000000 in
theorem reads_calls (s : ByteArray) (w : World) (hs : s.size ≤ 140737488351232) :
    Calls Try.prog 4 #[.string s] w fun e w' => e = .returned (.bool true) ∧ Below w.heap.size w w' := by
  have HA : Hid _ := awake_calls
  rcases Classical.em (∃ ms, nm s = some ms ∧ Good ms) with hq | hq
  · obtain ⟨ms, hn, hg⟩ := hq
    have HO : Hid _ := of_good s ms w hs hn hg
    have HT : Hid _ := fun wx => taken_calls s wx hs true (by simp only [iff_true]; exact ⟨ms, hn, hg⟩)
    have HB : Hid _ := Good.bytes hn hg
    have HBy : Hid _ := fun wx p b A (hx : Lc wx p b A) => bytes_calls wx hx
    clear hn hg
    go_enter Try.func4, Try.ntmps4
    go_wp2_with fail
    refine Calls.mono HO.out ?_
    rintro e w1 ⟨p, b, rfl, L1, b1, hp, hb⟩
    go_wp2_with fail
    refine Calls.mono (HT.out w1) ?_
    rintro e w2 ⟨rfl, b2⟩
    have Y := HBy.out _ _ _ _ (L1.below b2)
    rw [HB.out] at Y
    have z1 := b1.size
    have B2 := b1.trans (b2.mono z1)
    go_wp2_with fail
    refine Y.mono ?_
    rintro e w3 ⟨rfl, b3⟩
    have B3 := B2.trans (b3.mono B2.size)
    go_wp2_with fail
    refine (HA.out _).mono ?_
    rintro e w4 ⟨rfl, b4⟩
    go_wp2
    go_ret
    exact ⟨rfl, B3.trans (b4.mono B3.size)⟩
  · have HO : Hid _ := of_bad s w hs (fun ms hn hg => hq ⟨ms, hn, hg⟩)
    have HT : Hid _ := fun wx => taken_calls s wx hs false (by simp only [Bool.false_eq_true, iff_false]; exact hq)
    go_enter Try.func4, Try.ntmps4
    go_wp2_with fail
    refine Calls.mono HO.out ?_
    rintro e w1 ⟨rfl, b1⟩
    go_wp2_with fail
    refine Calls.mono (HT.out w1) ?_
    rintro e w2 ⟨rfl, b2⟩
    have z1 := b1.size
    have B2 := b1.trans (b2.mono z1)
    go_wp2_with fail
    refine (HA.out _).mono ?_
    rintro e w4 ⟨rfl, b4⟩
    go_wp2
    go_ret
    exact ⟨rfl, B2.trans (b4.mono B2.size)⟩
end Go.Proofs.Ytgbcbjfaplogaaa
