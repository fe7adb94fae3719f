/- The records that bytes are: the document's answer. -/
import Derived.Test.YtdaonkgcdheplaaRcO
import Derived.Test.YtdaonkgcdheplaaRcR
namespace Go.Proofs.Ytdaonkgcdheplaa
open Go.RowKit
set_option linter.unusedVariables false
set_option linter.unusedSimpArgs false

theorem below_grown {b : Nat} {x w w' : World} {row : Option Nat} (h : Below b x w) (hg : w.grownBy w' row) (hr : ∀ k, row = some k → b ≤ k) (hbs : b ≤ w.heap.size) : Below b x w' :=
  ⟨hg.os.trans h.os, hg.tape.trans h.tape, hg.output.trans h.output, Nat.le_trans h.size hg.size, fun k hk => (hg.block k (by omega) (fun e => by have := hr k e.symm; omega)).trans (h.block k hk)⟩

set_option maxRecDepth 100000 in
set_option maxHeartbeats 2000000 in
theorem ofRecords_ref (s : ByteArray) (w : World) (hs : s.size ≤ maxLen) :
    Calls Try.prog 10 #[.string s] w (GotRc (ofRcR s) w) := by
  obtain ⟨i0, hi, hz0, hz1, hz2⟩ := info_parts infoRecord
  by_cases hbig : 1048576 < s.size
  · have hfin : Hid (ofRcR s = .error 4) := by show _ = _; unfold ofRcR; rw [if_pos hbig]
    have hd : decide ((1048576 : Int) < (s.size : Int)) = true := by simp only [decide_eq_true_eq]; omega
    unfold maxLen at hs
    go_enter Try.func10, Try.ntmps10
    go_wp2
    go_ret2
    rw [hfin.out]
    exact ⟨rfl, Below.refl _ _⟩
  · have hd : decide ((1048576 : Int) < (s.size : Int)) = false := by simp only [decide_eq_false_iff_not]; omega
    have hint := int_ref s 0 w hs (Nat.zero_le _)
    cases h1 : rdInt s 0 with
    | error er =>
      have hne : (er != 0) = true := by simpa using rdInt_err h1
      have hfin : Hid (ofRcR s = .error er) := by show _ = _; unfold ofRcR rdRcs rdCnt rdCount; rw [if_neg hbig, h1]
      rw [h1] at hint
      simp only [got] at hint
      clear h1
      go_enter Try.func10, Try.ntmps10
      go_wp2_with fail
      refine hint.mono ?_
      rintro e w1 ⟨rfl, rfl⟩
      go_wp2
      go_ret2
      rw [hfin.out]
      exact ⟨rfl, Below.refl _ _⟩
    | ok p =>
      obtain ⟨n, a1⟩ := p
      have l1 := rdInt_le h1
      rw [h1] at hint
      simp only [got] at hint
      by_cases hm : 4096 < n
      · have hfin : Hid (ofRcR s = .error 2) := by show _ = _; unfold ofRcR rdRcs rdCnt rdCount; rw [if_neg hbig, h1]; simp only [hm, if_true]
        have hd2 : decide ((4096 : Int) < n) = true := by simp only [decide_eq_true_eq]; omega
        clear h1
        go_enter Try.func10, Try.ntmps10
        go_wp2_with fail
        refine hint.mono ?_
        rintro e w1 ⟨rfl, rfl⟩
        go_wp2
        go_ret2
        rw [hfin.out]
        exact ⟨rfl, Below.refl _ _⟩
      · have hd2 : decide ((4096 : Int) < n) = false := by simp only [decide_eq_false_iff_not]; omega
        have hfin : Hid (rdRcs s 0 4096 = rdRep (rdRc s) n a1 []) := by show _ = _; unfold rdRcs rdCnt rdCount; rw [h1]; simp only [hm, if_false]
        have hof : Hid (ofRcR s = match rdRcs s 0 4096 with
            | .error e => .error e
            | .ok (l, nx) => if nx < s.size then .error 12 else if riseR l = 0 then .ok l else .error (riseR l)) := by show _ = _; unfold ofRcR; rw [if_neg hbig]; rfl
        clear h1
        go_enter Try.func10, Try.ntmps10
        go_wp2_with fail
        refine hint.mono ?_
        rintro e w1 ⟨rfl, rfl⟩
        go_wp2
        go_loopw [5, 7, 8] (fun at' v i wr => ∃ (k a2 : Nat) (l : List Rc), k ≤ n ∧ at' = .int .i64 a2 ∧ i = .int .i64 k ∧ l.length = k ∧ a2 ≤ s.size ∧ Hid (rdRcs s 0 4096 = rdRep (rdRc s) (n - k) a2 l) ∧ wr.ownsRow w1.heap.size 51 2 v k (rcCells l) ∧ Below w1.heap.size w1 wr) (fun _ _ i _ => n - (intOf i).toNat)
        case atStart => exact ⟨0, a1, [], Nat.zero_le _, rfl, rfl, rfl, l1.2.1, hfin, World.ownsRow_nil _ _ _ _, Below.refl _ _⟩
        case round =>
          obtain ⟨k, a2, l, hk, rfl, rfl, hlk, ha2, hR, hown, hb⟩ := hrel
          have hz := hb.size
          clear hfin
          by_cases hlt : k < n
          · have hd3 : decide ((k : Int) < n) = true := by simp only [decide_eq_true_eq]; omega
            have hstep : Hid (rdRcs s 0 4096 = rdRep (rdRc s) (n - (k + 1) + 1) a2 l) := by show _ = _; rw [hR.out, show n - k = (n - (k + 1)) + 1 by omega]
            clear hR
            have ht := text_ref s a2 wr hs ha2
            cases h2 : rdText s a2 with
            | error er =>
              have hne : (er != 0) = true := by simpa using rdText_nz h2
              have hfin2 : Hid (ofRcR s = .error er) := by show _ = _; rw [hof.out, hstep.out]; simp only [rdRep, rdRc, h2]
              rw [h2] at ht
              simp only [gotT] at ht
              clear h2 hstep hof
              go_wp2_with fail
              refine ht.mono ?_
              rintro e w2 ⟨rfl, rfl⟩
              go_wp2
              go_ret2
              rw [hfin2.out]
              exact ⟨rfl, hb⟩
            | ok q =>
              obtain ⟨t, a3⟩ := q
              have l2 := rdText_le h2
              have ht3 := text_ref s a3 wr hs l2.2.1
              rw [h2] at ht
              simp only [gotT] at ht
              cases h3 : rdText s a3 with
              | error er =>
                have hne : (er != 0) = true := by simpa using rdText_nz h3
                have hfin2 : Hid (ofRcR s = .error er) := by show _ = _; rw [hof.out, hstep.out]; simp only [rdRep, rdRc, h2, h3]
                rw [h3] at ht3
                simp only [gotT] at ht3
                clear h2 h3 hstep hof
                go_wp2_with fail
                refine ht.mono ?_
                rintro e w2 ⟨rfl, rfl⟩
                go_wp2_with fail
                refine ht3.mono ?_
                rintro e w3 ⟨rfl, rfl⟩
                go_wp2
                go_ret2
                rw [hfin2.out]
                exact ⟨rfl, hb⟩
              | ok q =>
                obtain ⟨u, a4⟩ := q
                have l3 := rdText_le h3
                have hfin2 : Hid (rdRcs s 0 4096 = rdRep (rdRc s) (n - (k + 1)) a4 (l ++ [⟨t, u⟩])) := by show _ = _; rw [hstep.out]; simp only [rdRep, rdRc, h2, h3]
                rw [h3] at ht3
                simp only [gotT] at ht3
                clear h2 h3 hstep
                go_wp2_with fail
                refine ht.mono ?_
                rintro e w2 ⟨rfl, rfl⟩
                go_wp2_with fail
                refine ht3.mono ?_
                rintro e w3 ⟨rfl, rfl⟩
                have hb3 := hb.alloc hz (.cells #[.string t, .string u] 51)
                go_wp2_with (at_builtin; refine wpList_append_own _ rfl (.tmp 54) (.tmp 58) 22 rfl w1.heap.size 51 i0 (.agg #[.string ⟨#[]⟩, .string ⟨#[]⟩]) 2 32 Try.underlying22 hi hz0 hz1 hz2 rfl (by decide) _ _ _ rfl (hown.alloc _) ⟨w3.heap.size, 0, none⟩ 1 1 [.string t, .string u] rfl rfl ?c1 ?c2 ?c3 ?c4 ?c5 ?_)
                case c1 =>
                  intro j u hj
                  rw [Addr.add_lit]
                  refine (blk_new w3 w3.heap.size _ _ rfl).cell ?_
                  simpa using hj
                case c2 =>
                  intro u hu
                  simp at hu
                  rcases hu with rfl | rfl <;> rfl
                case c3 => unfold maxLen; omega
                case c4 => omega
                case c5 => simp; omega
                intro v' w4 hown' hgrow _
                go_wp2
                refine ⟨⟨k + 1, a4, l ++ [⟨t, u⟩], by omega, rfl, by go_num, by simp; omega, l3.2.1, hfin2, ?_, ?_⟩, by simp [intOf]; omega⟩
                · have e : rcCells (l ++ [⟨t, u⟩]) = rcCells l ++ [.string t, .string u] := by simp [rcCells]
                  rw [e]; exact hown'
                · exact below_grown hb3 hgrow (fun k hk => (hown.lt k hk).1) hb3.size
          · have hd3 : decide ((k : Int) < n) = false := by simp only [decide_eq_false_iff_not]; omega
            have hrd : rdRcs s 0 4096 = .ok (l, a2) := by rw [hR.out, show n - k = 0 by omega]; rfl
            have hle := rdRcs_le hrd
            have hof2 : Hid (ofRcR s = if a2 < s.size then .error 12 else if riseR l = 0 then .ok l else .error (riseR l)) := by show _ = _; rw [hof.out, hrd]
            clear hR hof hrd
            subst hlk
            by_cases htail : a2 < s.size
            · have hdt : decide ((a2 : Int) < (s.size : Int)) = true := by simp only [decide_eq_true_eq]; omega
              have hfin2 : Hid (ofRcR s = .error 12) := by show _ = _; rw [hof2.out, if_pos htail]
              clear hof2
              go_wp2
              go_ret2
              rw [hfin2.out]
              exact ⟨rfl, hb⟩
            · have hdt : decide ((a2 : Int) < (s.size : Int)) = false := by simp only [decide_eq_false_iff_not]; omega
              have hrc := rcs_of_own hown (fun m hm => ⟨Nat.le_trans (hle.2.2.2 m hm).1 (by unfold maxLen; decide), Nat.le_trans (hle.2.2.2 m hm).2 (by unfold maxLen; decide)⟩)
              have hris := rise_ref _ l wr hrc (by omega)
              obtain ⟨p, c, rfl⟩ := own_slice hown
              clear hrc
              by_cases hok : riseR l = 0
              · have hfin2 : Hid (ofRcR s = .ok l) := by show _ = _; rw [hof2.out, if_neg htail, if_pos hok]
                rw [hok] at hris
                clear hof2
                go_wp2_with fail
                refine hris.mono ?_
                rintro e w2 ⟨rfl, b2⟩
                go_wp2
                go_ret2
                rw [hfin2.out]
                exact ⟨_, rfl, own_below1 hown b2, hb.trans (b2.mono hz)⟩
              · have hne : (riseR l != 0) = true := by simpa using hok
                have hfin2 : Hid (ofRcR s = .error (riseR l)) := by show _ = _; rw [hof2.out, if_neg htail, if_neg hok]
                clear hof2
                go_wp2_with fail
                refine hris.mono ?_
                rintro e w2 ⟨rfl, b2⟩
                go_wp2
                go_ret2
                rw [hfin2.out]
                exact ⟨rfl, hb.trans (b2.mono hz)⟩
end Go.Proofs.Ytdaonkgcdheplaa
