/- AuthnForged for every input: what it answers. -/
import Derived.Test.YtpncomnfodiliaaAuY
import Derived.Deep.DeepCutAuto
import Derived.Deep.CutBlock
namespace Go.Proofs.Ytpncomnfodiliaa
open Go.RowKit
set_option linter.unusedSimpArgs false
set_option linter.unusedVariables false

set_option maxHeartbeats 2000000 in
set_option maxRecDepth 100000 in
theorem forged_calls (v : Value) (l : List Ac) (who : Int) (text sig : ByteArray) (w : World) (hl : Acs w v l) (hll : l.length * 48 ≤ 140737488351232) :
    Calls Try.prog 5 #[v, .int .i64 who, .string text, .string sig] w fun e w' => e = .returned (.bool true) ∧ Below w.heap.size w w' := by
  have HN : Hid _ := newBook_calls
  have HA : Hid _ := awake_calls
  obtain ⟨a, cap, rfl, hc⟩ := hl.any
  have HC : Hid _ := hc
  clear hc hl
  go_enter Try.func5, Try.ntmps5
  go_wp2_with fail
  refine (HN.out _).mono ?_
  rintro e w1 ⟨p, b, x, y, rfl, K1, b1, hp, hb, hx, hy⟩
  go_upto_block 0 with fail
  go_cut [10] (fun sg wx => ∃ S : List (Int × ByteArray), S.length ≤ 100 ∧ (∀ q ∈ l.take 100, isSg q.who = true → (q.who, q.text) ∈ S) ∧ Book wx p b x y [] S ∧ sg = .bool (issB S who text) ∧ Below w.heap.size w wx)
  case first =>
    go_wp2_with fail
    rename World => w1
    go_loopw [10, 11] (fun sg i wr => ∃ (k : Nat) (S : List (Int × ByteArray)), k ≤ l.length ∧ k ≤ 100 ∧ i = .int .i64 k ∧ S.length ≤ k ∧ (∀ q ∈ l.take k, isSg q.who = true → (q.who, q.text) ∈ S) ∧ Book wr p b x y [] S ∧ sg = .bool (issB S who text) ∧ Below w.heap.size w wr) (fun _ i _ => l.length - (intOf i).toNat)
    case atStart => exact ⟨0, [], Nat.zero_le _, by decide, rfl, Nat.le_refl _, by simp, K1, by unfold issB; simp [isIn, seek], b1⟩
    case round =>
      obtain ⟨k, S, hk, hk1, rfl, hSl, hSm, K2, rfl, hb2⟩ := hrel
      have hz2 := hb2.size
      by_cases hgo : k < l.length ∧ k < 100
      · obtain ⟨hlt, hlt1⟩ := hgo
        have hdk : decide ((k : Int) < (l.length : Int)) = true := by simp only [decide_eq_true_eq]; omega
        have hdk1 : decide ((k : Int) < 100) = true := by simp only [decide_eq_true_eq]; omega
        obtain ⟨g, off, hga, _, hg, hcel, hfit⟩ := HC.out k hlt
        subst hga
        have d1 := keepCell hb2 (hcel 1 _ rfl)
        have d2 := keepCell hb2 (hcel 2 _ rfl)
        have hsz := hfit.1
        generalize hA : l[k] = ac at *
        obtain ⟨ak, aw, at_, asg⟩ := ac
        simp only at d1 d2 hsz
        have hSi := bookSign_calls aw at_ wr.drew (K2.below (Below.refl _ _).drew) (by omega) hsz
        have his := iss_step S aw at_ who text
        have hlen := signS_len S aw at_
        have htk : ∀ q ∈ l.take (k + 1), isSg q.who = true → (q.who, q.text) ∈ signS S aw at_ := by
          rw [List.take_succ_eq_append_getElem hlt, hA]
          intro q hq hqs
          rcases List.mem_append.1 hq with h1 | h1
          · have := hSm q h1 hqs
            unfold signS; split
            · exact (mem_note _ _ _).2 (Or.inl this)
            · exact this
          · have hq2 : q = ⟨ak, aw, at_, asg⟩ := by simpa using h1
            subst hq2
            unfold signS; rw [if_pos hqs]
            exact (mem_note _ _ _).2 (Or.inr rfl)
        have HT : Hid _ := htk
        clear htk
        have HI : Hid _ := his
        clear his
        obtain ⟨S2, hS2⟩ : ∃ S2, signS S aw at_ = S2 := ⟨_, rfl⟩
        rw [hS2] at hSi HI HT hlen
        obtain ⟨B1, hB1⟩ : ∃ B1, decide (aw = who) = B1 := ⟨_, rfl⟩
        obtain ⟨B2, hB2⟩ : ∃ B2, (at_.toList == text.toList) = B2 := ⟨_, rfl⟩
        have hB1' : (aw == who) = B1 := by rw [← hB1]; rfl
        rw [hB1, ← strEq, hB2] at HI
        obtain ⟨sv, ev, hev0, hsv⟩ := signR_two S aw at_
        have hev : Hid _ := hev0
        rw [hsv] at hSi
        clear hev0 hsv
        obtain ⟨Bs, hBs⟩ : ∃ Bs, issB S who text = Bs := ⟨_, rfl⟩
        rw [hBs] at HI ⊢
        go_wp2_with fail
        go_region_with (go_at_call 13; refine hSi.mono ?_; rintro e w3 ⟨rfl, K3, o3⟩; have hb3 := o3.below hx hy (hb2.drew) hz2; have e1 := keepCell2 (K2.below (Below.refl _ _).drew) o3 d1; have e2 := keepCell2 (K2.below (Below.refl _ _).drew) o3 d2)
        all_goals
          clear hSi
          cases hsg : isSg aw
          · rw [hsg] at HI hev
            obtain rfl : ev = 1 := by simpa using hev.out
            go_wp2
            refine ⟨⟨k + 1, S2, by omega, by omega, by norm_cast, by omega, HT.out, K3, ?_, hb3⟩, ?_⟩
            · rw [HI.out]; simp
            · simp [intOf]; omega
          · rw [hsg] at HI hev
            obtain rfl : ev = 0 := by simpa using hev.out
            cases B1
            · go_wp2
              refine ⟨⟨k + 1, S2, by omega, by omega, by norm_cast, by omega, HT.out, K3, ?_, hb3⟩, ?_⟩
              · rw [HI.out]; simp
              · simp [intOf]; omega
            · cases B2
              · go_wp2
                refine ⟨⟨k + 1, S2, by omega, by omega, by norm_cast, by omega, HT.out, K3, ?_, hb3⟩, ?_⟩
                · rw [HI.out]; simp
                · simp [intOf]; omega
              · go_wp2
                refine ⟨⟨k + 1, S2, by omega, by omega, by norm_cast, by omega, HT.out, K3, ?_, hb3⟩, ?_⟩
                · rw [HI.out]; simp
                · simp [intOf]; omega
      · have htk : l.take 100 = l.take k := by
          by_cases h1 : k < l.length
          · have : k = 100 := by omega
            rw [this]
          · rw [List.take_of_length_le (by omega), List.take_of_length_le (by omega)]
        have HF : Hid (∀ q ∈ l.take 100, isSg q.who = true → (q.who, q.text) ∈ S) := by show ∀ q ∈ l.take 100, _; rw [htk]; exact hSm
        by_cases h1 : k < l.length
        · have hdk : decide ((k : Int) < (l.length : Int)) = true := by simp only [decide_eq_true_eq]; omega
          have hdk1 : decide ((k : Int) < 100) = false := by simp only [decide_eq_false_iff_not]; omega
          go_wp2_with fail
          go_meet
          exact ⟨S, by omega, HF.out, K2, rfl, hb2⟩
        · have hdk : decide ((k : Int) < (l.length : Int)) = false := by simp only [decide_eq_false_iff_not]; omega
          go_wp2_with fail
          go_meet
          exact ⟨S, by omega, HF.out, K2, rfl, hb2⟩
  case rest =>
    obtain ⟨S, hSl, hSm, K2, rfl, hb2⟩ := hcut
    have hz2 := hb2.size
    go_upto_region 11 with fail
    have hck := fun wx h => bookCheck_calls (p := p) (b := b) (x := x) (y := y) (T := []) (S := S) who text sig wx h (by omega)
    have his := fun wx h => bookIssued_calls (p := p) (b := b) (x := x) (y := y) (T := []) (S := S) who text wx h
    have HCK : Hid _ := hck
    have HIS : Hid _ := his
    have HM : Hid _ := hSm
    clear hck his hSm
    go_cut [10, 82] (fun s10 s82 wx => s82 = .bool false ∧ Below wc.heap.size wc wx)
    case first =>
      cases hB : issB S who text
      · rw [chk_iss S who text sig hB] at HCK
        rw [hB] at HIS
        go_wp2_with fail
        refine (HCK.out _ K2).mono ?_
        rintro e w3 ⟨rfl, b3⟩
        go_wp2_with fail
        refine (HIS.out _ (K2.below b3)).mono ?_
        rintro e w4 ⟨rfl, b4⟩
        go_wp2_with fail
        go_meet
        exact ⟨rfl, b3.trans (b4.mono b3.size)⟩
      · rw [hB] at HIS
        generalize chkB S who text sig = C at *
        cases C
        · go_wp2_with fail
          refine (HCK.out _ K2).mono ?_
          rintro e w3 ⟨rfl, b3⟩
          go_wp2_with fail
          refine (HIS.out _ (K2.below b3)).mono ?_
          rintro e w4 ⟨rfl, b4⟩
          go_wp2_with fail
          go_meet
          exact ⟨rfl, b3.trans (b4.mono b3.size)⟩
        · go_wp2_with fail
          refine (HCK.out _ K2).mono ?_
          rintro e w3 ⟨rfl, b3⟩
          go_wp2_with fail
          refine (HIS.out _ (K2.below b3)).mono ?_
          rintro e w4 ⟨rfl, b4⟩
          go_wp2_with fail
          go_meet
          exact ⟨rfl, b3.trans (b4.mono b3.size)⟩
    case rest =>
      obtain ⟨rfl, hbc⟩ := hcut
      rename World => w5
      have K5 := K2.below hbc
      have hb5 := hb2.trans (hbc.mono hz2)
      have hz5 := hb5.size
      go_upto_block 2 with fail
      go_cut [] (fun wx => Below w.heap.size w wx)
      case first =>
        go_wp2_with fail
        go_loopw [14] (fun i wr => ∃ k : Nat, k ≤ l.length ∧ k ≤ 100 ∧ i = .int .i64 k ∧ Book wr p b x y [] S ∧ Below w.heap.size w wr) (fun i _ => l.length - (intOf i).toNat)
        case atStart => exact ⟨0, Nat.zero_le _, by decide, rfl, K5, hb5⟩
        case round =>
          obtain ⟨k, hk, hk1, rfl, K3, hb3⟩ := hrel
          have hz3 := hb3.size
          by_cases hgo : k < l.length ∧ k < 100
          · obtain ⟨hlt, hlt1⟩ := hgo
            have hdk : decide ((k : Int) < (l.length : Int)) = true := by simp only [decide_eq_true_eq]; omega
            have hdk1 : decide ((k : Int) < 100) = true := by simp only [decide_eq_true_eq]; omega
            obtain ⟨g, off, hga, _, hg, hcel, hfit⟩ := HC.out k hlt
            subst hga
            have d1 := keepCell hb3 (hcel 1 _ rfl)
            have d2 := keepCell hb3 (hcel 2 _ rfl)
            have hsz := hfit.1
            have hmem : l[k] ∈ l.take 100 := List.mem_take_iff_getElem.2 ⟨k, by omega, rfl⟩
            have hin := HM.out _ hmem
            generalize hA : l[k] = ac at *
            obtain ⟨ak, aw, at_, asg⟩ := ac
            simp only at d1 d2 hsz hin
            have hSi := bookSign_calls aw at_ wr.drew (K3.below (Below.refl _ _).drew) (by omega) hsz
            have hcs := chk_same S aw at_ who text
            obtain ⟨B1, hB1⟩ : ∃ B1, decide (aw = who) = B1 := ⟨_, rfl⟩
            obtain ⟨B2, hB2⟩ : ∃ B2, (at_.toList == text.toList) = B2 := ⟨_, rfl⟩
            have hB1' : (aw == who) = B1 := by rw [← hB1]; rfl
            rw [hB1, ← strEq, hB2] at hcs
            unfold signR signS at hSi
            cases hsg : isSg aw
            · rw [hsg] at hSi
              simp only [Bool.false_eq_true, if_false] at hSi
              clear hcs hin
              go_wp2_with fail
              go_region_with (go_at_call 13; refine hSi.mono ?_; rintro e w3 ⟨rfl, K4, o3⟩; have hb4 := o3.below hx hy (hb3.drew) hz3; have e1 := keepCell2 (K3.below (Below.refl _ _).drew) o3 d1; have e2 := keepCell2 (K3.below (Below.refl _ _).drew) o3 d2)
              all_goals
                go_wp2
                refine ⟨⟨k + 1, by omega, by omega, by norm_cast, K4, hb4⟩, ?_⟩
                simp [intOf]; omega
            · have hmm := hin hsg
              rw [hsg, note_old hmm] at hSi
              simp only [if_true] at hSi
              have hcs' := hcs hsg hmm (by omega)
              clear hcs hin
              generalize sgnB (num S (aw, at_)) = sv at *
              have hck := fun wx h => bookCheck_calls (p := p) (b := b) (x := x) (y := y) (T := []) (S := S) who text sv wx h (by omega)
              rw [hcs'] at hck
              have HK : Hid _ := hck
              clear hck hcs'
              go_wp2_with fail
              go_region_with (go_at_call 13; refine hSi.mono ?_; rintro e w3 ⟨rfl, K4, o3⟩; have hb4 := o3.below hx hy (hb3.drew) hz3; have e1 := keepCell2 (K3.below (Below.refl _ _).drew) o3 d1; have e2 := keepCell2 (K3.below (Below.refl _ _).drew) o3 d2)
              all_goals
                clear hSi
                have hz4 := hb4.size
                cases B1
                · go_wp2_with fail
                  refine (HK.out _ K4).mono ?_
                  rintro e w6 ⟨rfl, b6⟩
                  go_wp2
                  refine ⟨⟨k + 1, by omega, by omega, by norm_cast, K4.below b6, hb4.trans (b6.mono hz4)⟩, ?_⟩
                  simp [intOf]; omega
                · cases B2
                  · go_wp2_with fail
                    refine (HK.out _ K4).mono ?_
                    rintro e w6 ⟨rfl, b6⟩
                    go_wp2
                    refine ⟨⟨k + 1, by omega, by omega, by norm_cast, K4.below b6, hb4.trans (b6.mono hz4)⟩, ?_⟩
                    simp [intOf]; omega
                  · go_wp2_with fail
                    refine (HK.out _ K4).mono ?_
                    rintro e w6 ⟨rfl, b6⟩
                    go_wp2
                    refine ⟨⟨k + 1, by omega, by omega, by norm_cast, K4.below b6, hb4.trans (b6.mono hz4)⟩, ?_⟩
                    simp [intOf]; omega
          · by_cases h1 : k < l.length
            · have hdk : decide ((k : Int) < (l.length : Int)) = true := by simp only [decide_eq_true_eq]; omega
              have hdk1 : decide ((k : Int) < 100) = false := by simp only [decide_eq_false_iff_not]; omega
              go_wp2_with fail
              go_meet
              exact hb3
            · have hdk : decide ((k : Int) < (l.length : Int)) = false := by simp only [decide_eq_false_iff_not]; omega
              go_wp2_with fail
              go_meet
              exact hb3
      case rest =>
        have hb6 := hcut
        go_wp2_with fail
        refine (HA.out _).mono ?_
        rintro e w7 ⟨rfl, b7⟩
        go_wp2
        go_ret
        exact ⟨rfl, hb6.trans (b7.mono hb6.size)⟩
end Go.Proofs.Ytpncomnfodiliaa
