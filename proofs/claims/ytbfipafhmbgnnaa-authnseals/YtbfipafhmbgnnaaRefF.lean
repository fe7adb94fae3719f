/- The document's answer: which messages may be. -/
import Derived.Test.YtbfipafhmbgnnaaOfF
import Derived.Test.YtbfipafhmbgnnaaRef1
namespace Go.Proofs.Ytbfipafhmbgnnaa
open Go.RowKit
set_option linter.unusedVariables false
set_option linter.unusedSimpArgs false

theorem fits_ref (m : Sg) (w : World) (h1 : m.body.size ≤ maxLen) (h2 : m.sig.size ≤ maxLen) :
    Calls Try.prog 50 #[m.val] w fun e w' => e = .returned (.bool (sgOk m)) ∧ Below w.heap.size w w' := by
  obtain ⟨f, b, g⟩ := m
  simp only at h1 h2
  unfold maxLen at h1 h2
  unfold sgOk Sg.val
  simp only
  by_cases e0 : 0 ≤ f
  · have d0 : decide (0 ≤ f) = true := by simpa using e0
    by_cases e1 : f ≤ 255
    · have d1 : decide (f ≤ 255) = true := by simpa using e1
      by_cases hb : b.size ≤ 1048576
      · have hd : decide ((b.size : Int) ≤ 1048576) = true := by simp only [decide_eq_true_eq]; omega
        go_enter Try.func50, Try.ntmps50
        go_wp2
        go_ret
        exact ⟨by simp [e0, e1, hb]; omega, by go_grown⟩
      · have hd : decide ((b.size : Int) ≤ 1048576) = false := by simp only [decide_eq_false_iff_not]; omega
        go_enter Try.func50, Try.ntmps50
        go_wp2
        go_ret
        exact ⟨by simp [e0, e1, hb], by go_grown⟩
    · have d1 : decide (f ≤ 255) = false := by simpa using e1
      go_enter Try.func50, Try.ntmps50
      go_wp2
      go_ret
      exact ⟨by simp [e0, e1], by go_grown⟩
  · have d0 : decide (0 ≤ f) = false := by simpa using e0
    go_enter Try.func50, Try.ntmps50
    go_wp2
    go_ret
    exact ⟨by simp [e0], by go_grown⟩

theorem fitAll_ref (v : Value) (l : List Sg) (w : World) (h : Sgs w v l) (hl : l.length < 9223372036854775807) :
    Calls Try.prog 36 #[v] w fun e w' => e = .returned (.bool (l.all sgOk)) ∧ Below w.heap.size w w' := by
  rcases h with ⟨⟨pz, cz, rfl⟩, rfl⟩ | ⟨b, off, cap, rfl, hc⟩
  · go_enter Try.func36, Try.ntmps36
    go_wp2
    refine wp_loop_rounds 1 ?_
    rw [rounds_succ]
    go_wp2
    go_ret
    exact ⟨rfl, Below.refl _ _⟩
  · have hnot : ∀ (x : Bool) (w : World), (Op.unary .not (.bool x)).run Try.prog w = .ok (.bool (!x)) w := fun _ _ => rfl
    have HC : Hid _ := hc
    clear hc
    go_enter Try.func36, Try.ntmps36
    go_wp2
    go_loopw [3] (fun i wr => ∃ k : Nat, k ≤ l.length ∧ i = .int .i64 k ∧ Hid (l.all sgOk = (l.drop k).all sgOk) ∧ Below w.heap.size w wr) (fun i _ => l.length - (intOf i).toNat)
    case atStart => exact ⟨0, Nat.zero_le _, rfl, rfl, Below.refl _ _⟩
    case round =>
      obtain ⟨k, hk, rfl, hR, hb⟩ := hrel
      by_cases hlt : k < l.length
      · have hd : decide ((k : Int) < l.length) = true := by simp only [decide_eq_true_eq]; omega
        obtain ⟨c1, c2, c3, z1, z2⟩ := HC.out k hlt
        have hbl := World.block_lt_of_cell? w _ c1
        have d1 := (hb.cell (p := ⟨b, off + k * 3, none⟩) hbl).trans c1
        have d2 := (hb.cell (p := ⟨b, off + k * 3 + 1, none⟩) hbl).trans c2
        have d3 := (hb.cell (p := ⟨b, off + k * 3 + 2, none⟩) hbl).trans c3
        have hdr : l.drop k = l[k] :: l.drop (k + 1) := List.drop_eq_getElem_cons hlt
        have HD : Hid _ := hdr
        have his := fun wx => fits_ref l[k] wx z1 z2
        have HI : Hid _ := his
        clear hdr his c1 c2 c3
        go_wp2_with fail
        refine (HI.out _).mono ?_
        rintro e w1 ⟨rfl, hb1⟩
        have hbw : Below w.heap.size w w1 := hb.trans (hb1.mono hb.size)
        by_cases hok : sgOk l[k] = true
        · rw [hok]
          go_wp2
          go_roundw
          case rel =>
            refine ⟨k + 1, by omega, by go_num, ?_, hbw⟩
            show _ = _
            rw [hR.out, HD.out, List.all_cons, hok]; simp
          case measure => simp [intOf]; omega
        · have hno : sgOk l[k] = false := by simpa using hok
          have hfin : Hid (l.all sgOk = false) := by
            show _ = _
            rw [hR.out, HD.out, List.all_cons, hno]; rfl
          rw [hno]
          go_wp2
          go_ret
          exact ⟨by rw [hfin.out]; rfl, hbw⟩
      · have hd : decide ((k : Int) < l.length) = false := by simp only [decide_eq_false_iff_not]; omega
        have hfin : Hid (l.all sgOk = true) := by
          show _ = _
          rw [hR.out, List.drop_of_length_le (by omega)]; rfl
        go_wp2
        go_ret
        exact ⟨by rw [hfin.out]; rfl, hb⟩
end Go.Proofs.Ytbfipafhmbgnnaa
