/- WireBack for every body, cut and more: what it answers. -/
import Derived.Test.YtbdakbibnigdjaaRefX
import Derived.Test.YtbdakbibnigdjaaSame
import Derived.Test.YtbdakbibnigdjaaPure4
namespace Go.Proofs.Ytbdakbibnigdjaa
open Go.RowKit
set_option linter.unusedVariables false
set_option linter.unusedSimpArgs false

theorem own_len {w : World} {base n : Nat} {v : Value} {xs : List Value} (h : w.ownsRow base 46 3 v n xs) : ∃ p c, v = .slice p n c := sgs_of_own' h

set_option maxRecDepth 100000 in
set_option maxHeartbeats 2000000 in
theorem back_wrong (b : Bd) (lv : Value) (cut : Int) (more : ByteArray) (w : World) (h1 : b.digest.size ≤ maxLen) (h2 : b.text.size ≤ maxLen) (h3 : b.list.length < 9223372036854775807) (hl : Sgs w lv b.list) (hr : ¬ right b = 0) :
    Calls Try.prog 8 #[b.val lv, .int .i64 cut, .string more] w fun e w' => e = .returned (.bool true) ∧ Below w.heap.size w w' := by
  have hby := fun wx (hb : Below w.heap.size w wx) => bytes_calls b lv wx h1 h2 h3 (hl.below hb)
  have hrr := fun wx (hb : Below w.heap.size w wx) => rightRef_calls b lv wx h1 h2 h3 (hl.below hb)
  unfold bytesR at hby
  rw [if_neg hr] at hby
  have hne : (right b != 0) = true := by simpa using hr
  have HB : Hid _ := hby
  have HR : Hid _ := hrr
  have hnew := bdAt_new w b lv 37
  obtain ⟨p, c, rfl⟩ := hl.len
  clear hby hrr hl hr
  generalize right b = R at *
  unfold Bd.val
  go_enter Try.func8, Try.ntmps8
  go_wp2_with fail
  refine (HB.out _ (by go_grown)).mono ?_
  rintro e w1 ⟨rfl, b1⟩
  have B1 : Below w.heap.size w w1 := (show Below w.heap.size w _ by go_grown).trans (b1.mono (by simp))
  obtain ⟨a0, a1, a2, a3, a4, a5, a6, a7, a8⟩ := hnew.below b1
  go_wp2_with fail
  refine (HR.out _ B1).mono ?_
  rintro e w2 ⟨rfl, b2⟩
  have B2 := B1.trans (b2.mono B1.size)
  go_wp2_with fail
  refine (awake_calls _).mono ?_
  rintro e w3 ⟨rfl, b3⟩
  go_wp2
  go_ret
  exact ⟨rfl, B2.trans (b3.mono B2.size)⟩

set_option maxRecDepth 100000 in
set_option maxHeartbeats 2000000 in
theorem back_long (b : Bd) (lv : Value) (cut : Int) (more : ByteArray) (w : World) (h1 : b.digest.size ≤ maxLen) (h2 : b.text.size ≤ maxLen) (h3 : b.list.length < 9223372036854775807) (hl : Sgs w lv b.list) (hr : right b = 0) (hlong : 1048576 < (bdB b).length) :
    Calls Try.prog 8 #[b.val lv, .int .i64 cut, .string more] w fun e w' => e = .returned (.bool true) ∧ Below w.heap.size w w' := by
  have hby := fun wx (hb : Below w.heap.size w wx) => bytes_calls b lv wx h1 h2 h3 (hl.below hb)
  have hrr := fun wx (hb : Below w.heap.size w wx) => rightRef_calls b lv wx h1 h2 h3 (hl.below hb)
  unfold bytesR at hby
  rw [if_pos hr, if_pos hlong] at hby
  rw [hr] at hrr
  have HB : Hid _ := hby
  have HR : Hid _ := hrr
  have hnew := bdAt_new w b lv 37
  obtain ⟨p, c, rfl⟩ := hl.len
  clear hby hrr hl hr hlong
  unfold Bd.val
  go_enter Try.func8, Try.ntmps8
  go_wp2_with fail
  refine (HB.out _ (by go_grown)).mono ?_
  rintro e w1 ⟨rfl, b1⟩
  have B1 : Below w.heap.size w w1 := (show Below w.heap.size w _ by go_grown).trans (b1.mono (by simp))
  obtain ⟨a0, a1, a2, a3, a4, a5, a6, a7, a8⟩ := hnew.below b1
  go_wp2_with fail
  refine (HR.out _ B1).mono ?_
  rintro e w2 ⟨rfl, b2⟩
  have B2 := B1.trans (b2.mono B1.size)
  go_wp2_with fail
  refine (awake_calls _).mono ?_
  rintro e w3 ⟨rfl, b3⟩
  go_wp2
  go_ret
  exact ⟨rfl, B2.trans (b3.mono B2.size)⟩

set_option maxRecDepth 100000 in
set_option maxHeartbeats 4000000 in
theorem back_ok (b : Bd) (lv : Value) (cut : Int) (more : ByteArray) (w : World) (h1 : b.digest.size ≤ maxLen) (h2 : b.text.size ≤ maxLen) (h3 : b.list.length < 9223372036854775807) (hl : Sgs w lv b.list) (hr : right b = 0) (hlong : ¬ 1048576 < (bdB b).length) (hmore : more.size ≤ 140737488351232) :
    Calls Try.prog 8 #[b.val lv, .int .i64 cut, .string more] w fun e w' => e = .returned (.bool true) ∧ Below w.heap.size w w' := by
  have hnot : ∀ (x : Bool) (w : World), (Op.unary .not (.bool x)).run Try.prog w = .ok (.bool (!x)) w := fun _ _ => rfl
  have hby := fun wx (hb : Below w.heap.size w wx) => bytes_calls b lv wx h1 h2 h3 (hl.below hb)
  unfold bytesR at hby
  rw [if_pos hr, if_neg hlong] at hby
  have hpos := bdB_pos b
  have hof := of_bytes b hr (by omega)
  have hmo := fun hm hle => of_more b more.data.toList hr hm hle
  have hcu := fun j hj => of_cut b j hr (by omega) hj
  have hsz := arr_size (bdB b)
  have hex : ∀ j, (⟨(bdB b).toArray⟩ : ByteArray).extract 0 j = ⟨((bdB b).take j).toArray⟩ := fun j => by
    have h := extract_list ⟨(bdB b).toArray⟩ 0 j
    simpa using h
  have hcat : (⟨(bdB b).toArray⟩ : ByteArray) ++ more = ⟨(bdB b ++ more.data.toList).toArray⟩ := cat_bytes _ _
  rw [← hcat, bytes_len] at hmo
  have hcu2 : ∀ j, j < (bdB b).length → ofR ((⟨(bdB b).toArray⟩ : ByteArray).extract 0 j) = .error 10 := fun j hj => by rw [hex]; exact hcu j hj
  obtain ⟨L, hL⟩ : ∃ L, L = (bdB b).length := ⟨_, rfl⟩
  rw [← hL] at hsz hpos hlong hmo hcu2
  obtain ⟨S, hS⟩ : ∃ S, S = (⟨(bdB b).toArray⟩ : ByteArray) := ⟨_, rfl⟩
  rw [← hS] at hby hof hmo hcu2 hsz
  clear hL
  subst hsz
  have hsgm : ∀ m ∈ b.list, m.body.size ≤ maxLen ∧ m.sig.size ≤ maxLen := fun m hm => by
    obtain ⟨_, _, _, _, _, _, _, _, hal⟩ := right_ok hr
    have := okSg_of m ((List.all_eq_true.1 hal) m hm)
    exact ⟨Nat.le_trans this.2.1 (by unfold maxLen; decide), Nat.le_trans this.2.2 (by unfold maxLen; decide)⟩
  have hself : sameB b b = true := (sameB_iff b b).2 rfl
  have hnew := bdAt_new w b lv 37
  obtain ⟨p, c, rfl⟩ := hl.len
  have HB : Hid _ := hby
  have HO : Hid _ := hof
  have HM : Hid _ := hmo
  have HK : Hid _ := hcu2
  have HSF : Hid _ := hself
  clear hby hof hmo hcu2 hcu hex hcat hS hself hr
  unfold Bd.val
  go_enter Try.func8, Try.ntmps8
  go_wp2_with fail
  refine (HB.out _ (by go_grown)).mono ?_
  rintro e w1 ⟨rfl, b1⟩
  have B1 : Below w.heap.size w w1 := (show Below w.heap.size w _ by go_grown).trans (b1.mono (by simp))
  have A1 := hnew.below b1
  have hsm : S.size ≤ maxLen := by unfold maxLen; omega
  have ho1 := fun wx => of_calls S wx hsm
  rw [HO.out] at ho1
  go_wp2_with fail
  refine (ho1 _).mono ?_
  rintro e w2 ⟨lv2, rfl, own2, b2⟩
  obtain ⟨p2, c2, rfl⟩ := own_len own2
  have B2 := B1.trans (b2.mono B1.size)
  have A2 := A1.below b2
  have Q2 : Sgs w2 (.slice p2 b.list.length c2) b.list := sgs_of_own own2 hsgm
  have hal2 : Below w2.heap.size w2 (w2.alloc (.cells #[.int .i64 b.kind, .int .i64 b.view, .int .i64 b.seq, .int .i64 b.client, .int .i64 b.stamp, .string b.digest, .string b.text, .slice p2 b.list.length c2] 37)) := (Below.refl _ _).alloc (Nat.le_refl _) _
  have A3 := A2.below hal2
  have C3 := bdAt_new w2 b (.slice p2 b.list.length c2) 37
  have B3 := B2.trans (hal2.mono B2.size)
  have hsame := same_ref b b (.slice p b.list.length c) (.slice p2 b.list.length c2) _ (hl.below B3) (Q2.below hal2) h3 h3
  rw [HSF.out] at hsame
  obtain ⟨a0, a1, a2, a3, a4, a5, a6, a7, a8⟩ := A3
  obtain ⟨d0, d1, d2, d3, d4, d5, d6, d7, d8⟩ := C3
  have hs0 : ((S.size : Int) == 0) = false := by rw [beq_eq_false_iff_ne]; omega
  have hs00 : ¬ (S.size : Int) = 0 := by omega
  have hs01 : ¬ (S.size : Int) = -1 := by omega
  clear hnew b1 A1 A2 own2 Q2 ho1
  unfold Bd.val
  unfold Bd.val at hsame
  go_wp2_with fail
  refine hsame.mono ?_
  rintro e w4 ⟨rfl, b4⟩
  have B4 := B3.trans (b4.mono B3.size)
  clear a0 a1 a2 a3 a4 a5 a6 a7 a8 d0 d1 d2 d3 d4 d5 d6 d7 d8
  -- the cut
  obtain ⟨m, hm⟩ : ∃ m, m = cut.tmod (S.size : Int) := ⟨_, rfl⟩
  have hmr : -(S.size : Int) < m ∧ m < S.size := by
    rw [hm]
    have g1 := Int.tmod_lt_of_pos cut (show (0 : Int) < S.size by omega)
    have g2 : -(S.size : Int) < cut.tmod S.size := by
      have h := Int.lt_tmod_of_pos cut (show (0 : Int) < S.size by omega)
      exact h
    exact ⟨g2, g1⟩
  have hw : wrap64 (cut.tmod (S.size : Int)) = m := by rw [← hm]; unfold wrap64; omega
  obtain ⟨j, hj, hjm⟩ : ∃ j : Nat, j < S.size ∧ ((m < 0 → (0 : Int) - m = (j : Int)) ∧ (¬ m < 0 → m = (j : Int))) := by
    by_cases h0 : m < 0
    · exact ⟨(-m).toNat, by omega, fun _ => by omega, fun h => absurd h0 h⟩
    · exact ⟨m.toNat, by omega, fun h => absurd h h0, fun _ => by omega⟩
  have hkk := fun wx => of_calls (S.extract 0 j) wx (by rw [ByteArray.size_extract]; unfold maxLen; omega)
  rw [HK.out j hj] at hkk
  have hsl : ∀ wx : World, (Instr.slice 9 (.string S) none (some (.int .i64 (j : Int))) none).run Try.prog wx = .ok (.string (S.extract 0 j)) wx := fun wx => by
    have h := run_slice_string_h (P := Try.prog) wx 9 S Try.underlying9 .i64 (j : Int) (by omega) (by omega)
    rw [Int.toNat_natCast] at h
    exact h
  have hw2 : cut.tmod (S.size : Int) = m := hm.symm
  clear hm
  by_cases h0 : m < 0
  · have hmj : m = -(j : Int) := by have := hjm.1 h0; omega
    subst hmj
    clear hjm hmr
    by_cases hme : more.size = 0
    · have hm0 : more.toList.isEmpty = true := by
        have : more.data.toList = [] := List.eq_nil_of_length_eq_zero (by rw [bytes_len]; exact hme)
        rw [ByteArray.toList_eq, this]; rfl
      clear hme
      go_wp2_with fail
      refine (hkk _).mono ?_
      rintro e w8 ⟨rfl, b8⟩
      have B8 := B4.trans (b8.mono B4.size)
      unfold zeroBd Bd.val
      go_wp2_with fail
      refine (awake_calls _).mono ?_
      rintro e w9 ⟨rfl, b9⟩
      go_wp2
      go_ret
      exact ⟨rfl, (B8.alloc B8.size _).trans (b9.mono (by simp; have := B8.size; omega))⟩
    · have hm0 : more.toList.isEmpty = false := by
        rw [ByteArray.toList_eq]
        cases e : more.data.toList with
        | nil => exact absurd (by rw [← bytes_len, e]; rfl) hme
        | cons x l => rfl
      by_cases hsum : S.size + more.size ≤ 1048576
      · have hd : decide ((S.size : Int) + (more.size : Int) ≤ 1048576) = true := by simp only [decide_eq_true_eq]; omega
        have hmc := fun wx => of_calls (S ++ more) wx (by rw [ByteArray.size_append]; unfold maxLen; omega)
        rw [HM.out (by omega) hsum] at hmc
        have hcat2 : ¬ 9223372036854775807 < S.size + more.size := by omega
        clear hme hsum
        go_wp2_with fail
        refine (hmc _).mono ?_
        rintro e w6 ⟨rfl, b6⟩
        have B6 := B4.trans (b6.mono B4.size)
        have B7 := B6.alloc B6.size (.cells #[.int .i64 0, .int .i64 0, .int .i64 0, .int .i64 0, .int .i64 0, .string ⟨#[]⟩, .string ⟨#[]⟩, .slice none 0 0] 37)
        unfold zeroBd Bd.val
        go_wp2_with fail
        refine (hkk _).mono ?_
        rintro e w8 ⟨rfl, b8⟩
        have B8 := B7.trans (b8.mono B7.size)
        unfold zeroBd Bd.val
        go_wp2_with fail
        refine (awake_calls _).mono ?_
        rintro e w9 ⟨rfl, b9⟩
        go_wp2
        go_ret
        exact ⟨rfl, (B8.alloc B8.size _).trans (b9.mono (by simp; have := B8.size; omega))⟩
      · have hd : decide ((S.size : Int) + (more.size : Int) ≤ 1048576) = false := by simp only [decide_eq_false_iff_not]; omega
        clear hme hsum
        go_wp2_with fail
        refine (hkk _).mono ?_
        rintro e w8 ⟨rfl, b8⟩
        have B8 := B4.trans (b8.mono B4.size)
        unfold zeroBd Bd.val
        go_wp2_with fail
        refine (awake_calls _).mono ?_
        rintro e w9 ⟨rfl, b9⟩
        go_wp2
        go_ret
        exact ⟨rfl, (B8.alloc B8.size _).trans (b9.mono (by simp; have := B8.size; omega))⟩
  · have hmj : m = (j : Int) := hjm.2 h0
    subst hmj
    clear hjm hmr
    by_cases hme : more.size = 0
    · have hm0 : more.toList.isEmpty = true := by
        have : more.data.toList = [] := List.eq_nil_of_length_eq_zero (by rw [bytes_len]; exact hme)
        rw [ByteArray.toList_eq, this]; rfl
      clear hme
      go_wp2_with fail
      refine (hkk _).mono ?_
      rintro e w8 ⟨rfl, b8⟩
      have B8 := B4.trans (b8.mono B4.size)
      unfold zeroBd Bd.val
      go_wp2_with fail
      refine (awake_calls _).mono ?_
      rintro e w9 ⟨rfl, b9⟩
      go_wp2
      go_ret
      exact ⟨rfl, (B8.alloc B8.size _).trans (b9.mono (by simp; have := B8.size; omega))⟩
    · have hm0 : more.toList.isEmpty = false := by
        rw [ByteArray.toList_eq]
        cases e : more.data.toList with
        | nil => exact absurd (by rw [← bytes_len, e]; rfl) hme
        | cons x l => rfl
      by_cases hsum : S.size + more.size ≤ 1048576
      · have hd : decide ((S.size : Int) + (more.size : Int) ≤ 1048576) = true := by simp only [decide_eq_true_eq]; omega
        have hmc := fun wx => of_calls (S ++ more) wx (by rw [ByteArray.size_append]; unfold maxLen; omega)
        rw [HM.out (by omega) hsum] at hmc
        have hcat2 : ¬ 9223372036854775807 < S.size + more.size := by omega
        clear hme hsum
        go_wp2_with fail
        refine (hmc _).mono ?_
        rintro e w6 ⟨rfl, b6⟩
        have B6 := B4.trans (b6.mono B4.size)
        have B7 := B6.alloc B6.size (.cells #[.int .i64 0, .int .i64 0, .int .i64 0, .int .i64 0, .int .i64 0, .string ⟨#[]⟩, .string ⟨#[]⟩, .slice none 0 0] 37)
        unfold zeroBd Bd.val
        go_wp2_with fail
        refine (hkk _).mono ?_
        rintro e w8 ⟨rfl, b8⟩
        have B8 := B7.trans (b8.mono B7.size)
        unfold zeroBd Bd.val
        go_wp2_with fail
        refine (awake_calls _).mono ?_
        rintro e w9 ⟨rfl, b9⟩
        go_wp2
        go_ret
        exact ⟨rfl, (B8.alloc B8.size _).trans (b9.mono (by simp; have := B8.size; omega))⟩
      · have hd : decide ((S.size : Int) + (more.size : Int) ≤ 1048576) = false := by simp only [decide_eq_false_iff_not]; omega
        clear hme hsum
        go_wp2_with fail
        refine (hkk _).mono ?_
        rintro e w8 ⟨rfl, b8⟩
        have B8 := B4.trans (b8.mono B4.size)
        unfold zeroBd Bd.val
        go_wp2_with fail
        refine (awake_calls _).mono ?_
        rintro e w9 ⟨rfl, b9⟩
        go_wp2
        go_ret
        exact ⟨rfl, (B8.alloc B8.size _).trans (b9.mono (by simp; have := B8.size; omega))⟩

theorem back_calls (b : Bd) (lv : Value) (cut : Int) (more : ByteArray) (w : World) (h1 : b.digest.size ≤ maxLen) (h2 : b.text.size ≤ maxLen) (h3 : b.list.length < 9223372036854775807) (hl : Sgs w lv b.list) (hmore : more.size ≤ 140737488351232) :
    Calls Try.prog 8 #[b.val lv, .int .i64 cut, .string more] w fun e w' => e = .returned (.bool true) ∧ Below w.heap.size w w' := by
  by_cases hr : right b = 0
  · by_cases hlong : 1048576 < (bdB b).length
    · exact back_long b lv cut more w h1 h2 h3 hl hr hlong
    · exact back_ok b lv cut more w h1 h2 h3 hl hr hlong hmore
  · exact back_wrong b lv cut more w h1 h2 h3 hl hr
end Go.Proofs.Ytbdakbibnigdjaa
