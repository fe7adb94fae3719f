/- QuoteBytes for every float and text: what it answers. -/
import Derived.Test.YtjcnnfpbodhbgaaQtBy
namespace Go.Proofs.Ytjcnnfpbodhbgaa
open Go.RowKit
set_option linter.unusedSimpArgs false
set_option linter.unusedVariables false

theorem leV_leB {b : Nat} (h : b < 18446744073709551616) : leV (leB b) 8 = b := by
  simp only [leV, leB, leL, Array.getD_eq_getD_getElem?]
  simp
  omega
theorem leV_eq (s : ByteArray) : leV s 8 = (s.data.getD 0 0).toNat + (s.data.getD 1 0).toNat * 256 + (s.data.getD 2 0).toNat * 65536 + (s.data.getD 3 0).toNat * 16777216 + (s.data.getD 4 0).toNat * 4294967296 + (s.data.getD 5 0).toNat * 1099511627776 + (s.data.getD 6 0).toNat * 281474976710656 + (s.data.getD 7 0).toNat * 72057594037927936 := by
  simp only [leV]
  simp
theorem leB_leV {s : ByteArray} (h : s.size = 8) : leB (leV s 8) = s := by
  obtain ⟨⟨l⟩⟩ := s
  have hl : l.length = 8 := h
  match l, hl with
  | [a0, a1, a2, a3, a4, a5, a6, a7], _ =>
    rw [leV_eq]
    have h0 := a0.toNat_lt
    have h1 := a1.toNat_lt
    have h2 := a2.toNat_lt
    have h3 := a3.toNat_lt
    have h4 := a4.toNat_lt
    have h5 := a5.toNat_lt
    have h6 := a6.toNat_lt
    have h7 := a7.toNat_lt
    simp only [Array.getD_eq_getD_getElem?]
    simp
    generalize hv : a0.toNat + a1.toNat * 256 + a2.toNat * 65536 + a3.toNat * 16777216 + a4.toNat * 4294967296 + a5.toNat * 1099511627776 + a6.toNat * 281474976710656 + a7.toNat * 72057594037927936 = v
    have c0 : UInt8.ofNat (v / 1) = a0 := by apply UInt8.toNat_inj.1; rw [UInt8.toNat_ofNat']; omega
    have c1 : UInt8.ofNat (v / 256) = a1 := by apply UInt8.toNat_inj.1; rw [UInt8.toNat_ofNat']; omega
    have c2 : UInt8.ofNat (v / 65536) = a2 := by apply UInt8.toNat_inj.1; rw [UInt8.toNat_ofNat']; omega
    have c3 : UInt8.ofNat (v / 16777216) = a3 := by apply UInt8.toNat_inj.1; rw [UInt8.toNat_ofNat']; omega
    have c4 : UInt8.ofNat (v / 4294967296) = a4 := by apply UInt8.toNat_inj.1; rw [UInt8.toNat_ofNat']; omega
    have c5 : UInt8.ofNat (v / 1099511627776) = a5 := by apply UInt8.toNat_inj.1; rw [UInt8.toNat_ofNat']; omega
    have c6 : UInt8.ofNat (v / 281474976710656) = a6 := by apply UInt8.toNat_inj.1; rw [UInt8.toNat_ofNat']; omega
    have c7 : UInt8.ofNat (v / 72057594037927936) = a7 := by apply UInt8.toNat_inj.1; rw [UInt8.toNat_ofNat']; omega
    unfold leB leL
    simp only [Nat.reducePow]
    rw [c0, c1, c2, c3, c4, c5, c6, c7]
theorem ofR_leB {n : Nat} (h : n < 18446744073709551616) (hn : fnan n = true → n = 9221120237041090561) : ofR (leB n) = (n, 0) := by
  unfold ofR
  have hz : (leB n).size = 8 := rfl
  rw [if_neg (by omega), if_neg (by omega), leV_leB h, if_neg]
  simp
  exact hn
theorem told_one {x : Nat} : fnan (toldR x) = true → toldR x = 9221120237041090561 := by
  unfold toldR
  cases hn : fnan x <;> simp [hn]
theorem told_self {x : Nat} (h : fnan x = true → x = 9221120237041090561) : toldR x = x := by
  unfold toldR
  cases hn : fnan x
  · rfl
  · rw [h hn]; rfl
theorem nanM_calls (w : World) : Calls Try.prog 22 #[] w fun e w' => e = .returned (.float .f64 9221120237041090561) ∧ w' = w := by
  have h := run_f64from 9221120237041090561
  go_enter Try.func22, Try.ntmps22
  go_wp2
  go_ret
  exact ⟨rfl, rfl⟩

/-- The last bytes of what is no number. -/
theorem nan_bytes {s : ByteArray} (h8 : s.size = 8) (hn : fnan (leV s 8) = true) : s[7].toNat % 128 = 127 ∧ s[6].toNat / 16 = 15 := by
  have hds : s.data.size = 8 := h8
  have e7 : s.data.getD 7 0 = s[7] := by
    show s.data.getD 7 0 = s.data[7]
    rw [Array.getD_eq_getD_getElem?, Array.getElem?_eq_getElem (by omega)]; rfl
  have e6 : s.data.getD 6 0 = s[6] := by
    show s.data.getD 6 0 = s.data[6]
    rw [Array.getD_eq_getD_getElem?, Array.getElem?_eq_getElem (by omega)]; rfl
  rw [leV_eq, e7, e6] at hn
  unfold fnan frung at hn
  simp only [decide_eq_true_eq] at hn
  have h0 := (s.data.getD 0 0).toNat_lt
  have h1 := (s.data.getD 1 0).toNat_lt
  have h2 := (s.data.getD 2 0).toNat_lt
  have h3 := (s.data.getD 3 0).toNat_lt
  have h4 := (s.data.getD 4 0).toNat_lt
  have h5 := (s.data.getD 5 0).toNat_lt
  have h6 := s[6].toNat_lt
  have h7 := s[7].toNat_lt
  omega

set_option maxHeartbeats 1000000 in
theorem quoteBytes_calls (x : Nat) (s : ByteArray) (w : World) (hx : x < 18446744073709551616) (hs : s.size ≤ maxLen) :
    Calls Try.prog 7 #[.float .f64 x, .string s] w fun e w' => e = .returned (.bool true) ∧ Below w.heap.size w w' := by
  have hnot : ∀ (x : Bool) (w : World), (Op.unary .not (.bool x)).run Try.prog w = .ok (.bool (!x)) w := fun _ _ => rfl
  have H1 : Hid _ := fun wx => bytes_calls x wx
  have h2 := fun wx => of_calls (leB (toldR x)) wx
  rw [ofR_leB (toldR_lt hx) told_one] at h2
  have H2 : Hid _ := h2
  have H3 : Hid _ := fun wx => one_calls x wx
  have H4 : Hid _ := fun wx => of_calls s wx
  clear h2
  have hsz : (leB (toldR x)).size = 8 := rfl
  generalize leB (toldR x) = b at *
  generalize toldR x = n at *
  have f0 : feq 0 0 = true := by decide
  by_cases h8 : s.size < 8
  · have hR : ofR s = (0, 10) := by unfold ofR; rw [if_pos h8]
    rw [hR] at H4
    have hd : decide ((s.size : Int) < 8) = true := by simp only [decide_eq_true_eq]; omega
    clear hR
    go_enter Try.func7, Try.ntmps7
    go_wp2_with fail
    refine (H1.out _).mono ?_
    rintro e w1 ⟨rfl, b1⟩
    go_wp2_with fail
    refine (H2.out _).mono ?_
    rintro e w2 ⟨rfl, rfl⟩
    go_wp2_with fail
    refine (H3.out _).mono ?_
    rintro e w2 ⟨rfl, rfl⟩
    go_wp2_with fail
    refine (alike_calls n n _).mono ?_
    rintro e w2 ⟨rfl, rfl⟩
    go_wp2_with fail
    refine (H4.out _).mono ?_
    rintro e w2 ⟨rfl, rfl⟩
    go_wp2_with fail
    refine (awake_calls _).mono ?_
    rintro e w3 ⟨rfl, rfl⟩
    go_wp2
    go_ret
    exact ⟨rfl, b1⟩
  have hd : decide ((s.size : Int) < 8) = false := by simp only [decide_eq_false_iff_not]; omega
  by_cases h9 : 8 < s.size
  · have hR : ofR s = (0, 12) := by unfold ofR; rw [if_neg h8, if_pos h9]
    rw [hR] at H4
    have hd2 : decide (8 < (s.size : Int)) = true := by simp only [decide_eq_true_eq]; omega
    clear hR
    go_enter Try.func7, Try.ntmps7
    go_wp2_with fail
    refine (H1.out _).mono ?_
    rintro e w1 ⟨rfl, b1⟩
    go_wp2_with fail
    refine (H2.out _).mono ?_
    rintro e w2 ⟨rfl, rfl⟩
    go_wp2_with fail
    refine (H3.out _).mono ?_
    rintro e w2 ⟨rfl, rfl⟩
    go_wp2_with fail
    refine (alike_calls n n _).mono ?_
    rintro e w2 ⟨rfl, rfl⟩
    go_wp2_with fail
    refine (H4.out _).mono ?_
    rintro e w2 ⟨rfl, rfl⟩
    go_wp2_with fail
    refine (awake_calls _).mono ?_
    rintro e w3 ⟨rfl, rfl⟩
    go_wp2
    go_ret
    exact ⟨rfl, b1⟩
  have hd2 : decide (8 < (s.size : Int)) = false := by simp only [decide_eq_false_iff_not]; omega
  have e8 : s.size = 8 := by omega
  cases hf : (fnan (leV s 8) && leV s 8 != 9221120237041090561)
  · have hR : ofR s = (leV s 8, 0) := by unfold ofR; rw [if_neg h8, if_neg h9, hf]; rfl
    rw [hR] at H4
    have hb := fun wx => bytes_calls (leV s 8) wx
    rw [told_self (x := leV s 8) (by intro hn; rw [hn] at hf; simpa using hf), leB_leV e8] at hb
    have H5 : Hid _ := hb
    clear hR hb hf
    generalize leV s 8 = v at *
    go_enter Try.func7, Try.ntmps7
    go_wp2_with fail
    refine (H1.out _).mono ?_
    rintro e w1 ⟨rfl, b1⟩
    go_wp2_with fail
    refine (H2.out _).mono ?_
    rintro e w2 ⟨rfl, rfl⟩
    go_wp2_with fail
    refine (H3.out _).mono ?_
    rintro e w2 ⟨rfl, rfl⟩
    go_wp2_with fail
    refine (alike_calls n n _).mono ?_
    rintro e w2 ⟨rfl, rfl⟩
    go_wp2_with fail
    refine (H4.out _).mono ?_
    rintro e w2 ⟨rfl, rfl⟩
    go_wp2_with fail
    refine (H5.out _).mono ?_
    rintro e w3 ⟨rfl, b3⟩
    go_wp2_with fail
    refine (awake_calls _).mono ?_
    rintro e w4 ⟨rfl, rfl⟩
    go_wp2
    go_ret
    exact ⟨rfl, b1.trans (b3.mono b1.size)⟩
  · have hR : ofR s = (0, 11) := by unfold ofR; rw [if_neg h8, if_neg h9, hf]; rfl
    rw [hR] at H4
    have hb := fun wx => bytes_calls 9221120237041090561 wx
    rw [show toldR 9221120237041090561 = 9221120237041090561 from by decide] at hb
    have hne : s ≠ leB 9221120237041090561 := by
      rintro rfl
      rw [leV_leB (by decide)] at hf
      simp at hf
    simp only [Bool.and_eq_true] at hf
    obtain ⟨h7, h6⟩ := nan_bytes e8 hf.1
    have H5 : Hid _ := hb
    clear hR hb hf
    generalize leB 9221120237041090561 = c at *
    have hne2 : ¬ s.toList = c.toList := by
      intro he
      rw [ByteArray.toList_eq, ByteArray.toList_eq] at he
      exact hne (ByteArray.ext (Array.toList_inj.1 he))
    have hne3 : (s.toList == c.toList) = false := by simpa using hne2
    have h6' : (s[6].toNat : Int) / 16 = 15 := by omega
    have hi7 : bits .and .u8 (s[7].toNat : Int) 127 = 127 := by
      have := s[7].toNat_lt
      rw [show (127 : Int) = ((127 : Nat) : Int) from rfl, u8_and_nat _ _ (by omega) (by decide), show (127 : Nat) = 2 ^ 7 - 1 from rfl, Nat.and_two_pow_sub_one_eq_mod]; omega
    go_enter Try.func7, Try.ntmps7
    go_wp2_with fail
    refine (H1.out _).mono ?_
    rintro e w1 ⟨rfl, b1⟩
    go_wp2_with fail
    refine (H2.out _).mono ?_
    rintro e w2 ⟨rfl, rfl⟩
    go_wp2_with fail
    refine (H3.out _).mono ?_
    rintro e w2 ⟨rfl, rfl⟩
    go_wp2_with fail
    refine (alike_calls n n _).mono ?_
    rintro e w2 ⟨rfl, rfl⟩
    go_wp2_with fail
    refine (H4.out _).mono ?_
    rintro e w2 ⟨rfl, rfl⟩
    go_wp2_with fail
    refine (nanM_calls _).mono ?_
    rintro e w3 ⟨rfl, rfl⟩
    go_wp2_with fail
    refine (H5.out _).mono ?_
    rintro e w3 ⟨rfl, b3⟩
    go_wp2_with fail
    refine (awake_calls _).mono ?_
    rintro e w4 ⟨rfl, rfl⟩
    go_wp2
    go_ret
    exact ⟨rfl, b1.trans (b3.mono b1.size)⟩
end Go.Proofs.Ytjcnnfpbodhbgaa
