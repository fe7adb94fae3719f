/- Numbers there and back: plain lists of bytes. -/
import Derived.Test.YtmcafgmjfgfaeaaDoorLr06
import Derived.Test.YtmcafgmjfgfaeaaDoorLr03
import Derived.Test.YtmcafgmjfgfaeaaDoorChecked
import Derived.Shelf.Strings.BuilderK
namespace Go.Proofs.YtmcafgmjfgfaeaaDoor
open Go.RowKit
set_option linter.unusedVariables false
set_option linter.unusedSimpArgs false

/-- As rdF, over a list: the number and how many bytes in all. -/
def rdP : Nat → Nat → Nat → List UInt8 → Except Int (Nat × Nat)
  | 0, _, _, _ => .error 11
  | k + 1, _, _, [] => .error 10
  | k + 1, i, n, c :: l =>
    if 128 ≤ c.toNat then rdP k (i + 1) (n + c.toNat % 128 * 128 ^ i) l
    else if (c.toNat = 0 ∧ 0 < i) ∨ 9007199254740992 < n + c.toNat % 128 * 128 ^ i then .error 11
    else .ok (n + c.toNat % 128 * 128 ^ i, i + 1)

/-- A reading at a place, out of one over a list. -/
def shiftR {α : Type} (a : Nat) : Except Int (α × Nat) → Except Int (α × Nat)
  | .ok (x, c) => .ok (x, a + c)
  | .error e => .error e

theorem drop_at (s : ByteArray) (j : Nat) (h : j < s.size) : s.data.toList.drop j = s[j] :: s.data.toList.drop (j + 1) := by
  have h' : j < s.data.toList.length := by rw [Array.length_toList]; exact h
  rw [List.drop_eq_getElem_cons h']; rfl

theorem rdF_list (s : ByteArray) (a : Nat) : ∀ (k i n : Nat), rdF s a k i n = shiftR a (rdP k i n (s.data.toList.drop (a + i))) := by
  intro k
  induction k with
  | zero => intro i n; rfl
  | succ k ih =>
    intro i n
    by_cases h : a + i < s.size
    · rw [drop_at s (a + i) h]
      simp only [rdF, h, dite_true, rdP]
      split
      · rw [ih]; rfl
      · split
        · rfl
        · simp [shiftR]; omega
    · have e : s.data.toList.drop (a + i) = [] := List.drop_of_length_le (by rw [Array.length_toList]; show s.size ≤ _; omega)
      rw [e]
      simp only [rdF, h, dite_false, rdP, shiftR]

theorem rdInt_list (s : ByteArray) (a : Nat) : rdInt s a = shiftR a (rdP 8 0 0 (s.data.toList.drop a)) := rdF_list s a 8 0 0

theorem encF_more : ∀ (k K m : Nat), 1 ≤ k → k ≤ K → m < 128 ^ k → encF K m = encF k m := by
  intro k
  induction k with
  | zero => intro K m h; omega
  | succ k ih =>
    intro K m _ hK hm
    obtain ⟨K', rfl⟩ : ∃ K', K = K' + 1 := ⟨K - 1, by omega⟩
    by_cases h : m < 128
    · simp [encF, h]
    · have hk : 1 ≤ k := by
        rcases Nat.eq_zero_or_pos k with h0 | h0
        · subst h0; simp at hm; omega
        · exact h0
      simp only [encF, h, if_false]
      rw [ih K' (m / 128) hk (by omega) (by rw [Nat.pow_succ] at hm; omega)]

theorem enc8 {m : Nat} (h : m ≤ 9007199254740992) : enc m = encF 8 m := by
  have e : (9007199254740992 : Nat) < 128 ^ 8 := by decide
  exact encF_more 8 10 m (by decide) (by decide) (by omega)

/-- What was read was laid: there is no second way to say it. -/
theorem rdP_canon : ∀ (k i n : Nat) (l : List UInt8) (m c : Nat), rdP k i n l = .ok (m, c) →
    ∃ v, m = n + v * 128 ^ i ∧ (0 < i → 0 < v) ∧ v < 128 ^ k ∧ i + (encF k v).length = c ∧ l.take (encF k v).length = encF k v ∧ (encF k v).length ≤ l.length ∧ m ≤ 9007199254740992 := by
  intro k
  induction k with
  | zero => intro i n l m c h; simp [rdP] at h
  | succ k ih =>
    intro i n l m c h
    cases l with
    | nil => simp [rdP] at h
    | cons x l =>
      simp only [rdP] at h
      have hx : x.toNat < 256 := x.toNat_lt
      split at h
      · rename_i h128
        obtain ⟨v, hm, hv, hvk, hc, ht, hl, hle⟩ := ih _ _ _ _ _ h
        have hv0 := hv (by omega)
        refine ⟨x.toNat % 128 + v * 128, ?_, fun _ => by omega, ?_, ?_⟩
        · rw [hm, Nat.pow_succ, Nat.add_mul, Nat.mul_assoc v 128 (128 ^ i), Nat.mul_comm 128 (128 ^ i)]; omega
        · rw [Nat.pow_succ]; omega
        · have hnot : ¬ x.toNat % 128 + v * 128 < 128 := by omega
          have e1 : (x.toNat % 128 + v * 128) % 128 = x.toNat % 128 := by omega
          have e2 : (x.toNat % 128 + v * 128) / 128 = v := by omega
          have e3 : UInt8.ofNat (128 + x.toNat % 128) = x := by
            have : 128 + x.toNat % 128 = x.toNat := by omega
            rw [this]; simp
          have e : encF (k + 1) (x.toNat % 128 + v * 128) = x :: encF k v := by simp only [encF, hnot, if_false, e1, e2, e3]
          rw [e]
          refine ⟨by simp; omega, by simp [ht], by simp; omega, hle⟩
      · rename_i h128
        split at h
        · cases h
        · rename_i hb
          simp only [Except.ok.injEq, Prod.mk.injEq] at h
          obtain ⟨rfl, rfl⟩ := h
          have e3 : x.toNat % 128 = x.toNat := by omega
          have e : encF (k + 1) x.toNat = [x] := by
            have : x.toNat < 128 := by omega
            simp [encF, this]
          refine ⟨x.toNat, by rw [e3], fun hi => by omega, ?_, by rw [e]; rfl, by rw [e]; rfl, by rw [e]; simp, by omega⟩
          rw [Nat.pow_succ]
          have : 1 ≤ 128 ^ k := Nat.pow_pos (by decide)
          omega

theorem rdP_canon0 {l : List UInt8} {m c : Nat} (h : rdP 8 0 0 l = .ok (m, c)) : c = (enc m).length ∧ l.take c = enc m ∧ c ≤ l.length ∧ m ≤ 9007199254740992 := by
  obtain ⟨v, hm, _, hv, hc, ht, hl, hle⟩ := rdP_canon 8 0 0 l m c h
  have e : v = m := by simp at hm; omega
  subst e
  rw [← enc8 hle] at hc ht hl
  have hc' : c = (enc v).length := by omega
  rw [hc']
  exact ⟨rfl, ht, hl, hle⟩

end Go.Proofs.YtmcafgmjfgfaeaaDoor

namespace Go.Proofs.YtmcafgmjfgfaeaaDoor
open Go.RowKit
set_option linter.unusedVariables false
set_option linter.unusedSimpArgs false

theorem withinP_calls (n m : Int) (w : World) :
    Calls Tryd.prog 81 #[.int .i64 n, .int .i64 m] w fun e w' => e = .returned (.bool (decide (0 ≤ n ∧ n ≤ m))) ∧ w' = w := by
  by_cases h0 : 0 ≤ n
  · go_enter Tryd.func81, Tryd.ntmps81
    go_wp2
    go_ret
    exact ⟨by simp [h0], rfl⟩
  · have h1 : decide (0 ≤ n) = false := by simpa using h0
    go_enter Tryd.func81, Tryd.ntmps81
    go_wp2
    go_ret
    exact ⟨by simp, rfl⟩

theorem isNumber_calls (n : Int) (w : World) :
    Calls Tryd.prog 70 #[.int .i64 n] w fun e w' => e = .returned (.bool (decide (0 ≤ n ∧ n ≤ 9007199254740992))) ∧ w' = w := by
  go_enter Tryd.func70, Tryd.ntmps70
  go_wp2_with fail
  refine (withinP_calls n 9007199254740992 w).mono ?_
  rintro e w1 ⟨rfl, rfl⟩
  go_wp2
  go_ret
  exact ⟨by simp, rfl⟩

theorem putInt_ok (n : Nat) (w : World) (h : n ≤ 9007199254740992) :
    Calls Tryd.prog 59 #[.int .i64 n] w fun e w' => e = .returned (.tuple #[.string ⟨(enc n).toArray⟩, .int .i64 0]) ∧ Below w.heap.size w w' := by
  have hnot : ∀ (x : Bool) (w : World), (Op.unary .not (.bool x)).run Tryd.prog w = .ok (.bool (!x)) w := fun _ _ => rfl
  have hi := isNumber_calls n w
  have e : decide (0 ≤ (n : Int) ∧ (n : Int) ≤ 9007199254740992) = true := by simp only [decide_eq_true_eq]; omega
  rw [e] at hi
  have hl := layInt_calls w.heap.size (.slice none 0 0) 0 [] n w (by omega) (World.ownsRow_nil _ _ _ _) (by omega) (Nat.le_refl _)
  go_enter Tryd.func59, Tryd.ntmps59
  go_wp2_with fail
  refine hi.mono ?_
  rintro e w1 ⟨rfl, rfl⟩
  go_wp2_with fail
  refine hl.mono ?_
  rintro e w2 ⟨v, rfl, ho, hb, _⟩
  rw [List.nil_append] at ho
  have hcv := own_convert ho
  go_wp2
  go_ret2
  exact ⟨rfl, hb⟩

theorem putText_ok (t : ByteArray) (w : World) (h : t.size ≤ 1048576) :
    Calls Tryd.prog 61 #[.string t] w fun e w' => e = .returned (.tuple #[.string ⟨(enc t.size ++ t.data.toList).toArray⟩, .int .i64 0]) ∧ Below w.heap.size w w' := by
  have hd : decide ((1048576 : Int) < t.size) = false := by simp only [decide_eq_false_iff_not]; omega
  have hl := layText_calls w.heap.size (.slice none 0 0) 0 [] t w (by omega) (World.ownsRow_nil _ _ _ _) (by omega) (Nat.le_refl _)
  go_enter Tryd.func61, Tryd.ntmps61
  go_wp2_with fail
  refine hl.mono ?_
  rintro e w2 ⟨v, rfl, ho, hb, _⟩
  rw [List.nil_append] at ho
  have hcv := own_convert ho
  go_wp2
  go_ret2
  exact ⟨rfl, hb⟩
end Go.Proofs.YtmcafgmjfgfaeaaDoor

namespace Go.Proofs.YtmcafgmjfgfaeaaDoor
open Go.Shelf
def bstL_ren : Go.Shelf.Ren := ⟨fun | 169 => 62 | n => n, fun | 70 => 91 | 9 => 9 | 0 => 0 | 72 => 94 | 37 => 92 | 127 => 112 | 3 => 3 | 5 => 5 | n => n, fun | n => n⟩
theorem bstL : Go.Proofs.Lays.n169 Tryd.prog bstL_ren := {
  mixed := by kernel_rfl
  f169 := Tryd.func62.trans (congrArg some (by kernel_rfl))
  t0 := Tryd.underlying0
  a0 := Tryd.isAgg0
  z0 := Tryd.sizeOf0
  v0 := Tryd.zeroValue0
  t3 := Tryd.underlying3
  a3 := Tryd.isAgg3
  z3 := Tryd.sizeOf3
  v3 := Tryd.zeroValue3
  t9 := Tryd.underlying9
  a9 := Tryd.isAgg9
  z9 := Tryd.sizeOf9
  v9 := Tryd.zeroValue9
  t37 := Tryd.underlying92
  a37 := Tryd.isAgg92
  z37 := Tryd.sizeOf92
  v37 := Tryd.zeroValue92
  t70 := Tryd.underlying91
  a70 := Tryd.isAgg91
  z70 := Tryd.sizeOf91
  v70 := Tryd.zeroValue91
  t72 := Tryd.underlying94
  a72 := Tryd.isAgg94
  z72 := Tryd.sizeOf94
  v72 := Tryd.zeroValue94
  t127 := Tryd.underlying112
  a127 := Tryd.isAgg112
  z127 := Tryd.sizeOf112
  v127 := Tryd.zeroValue112 }
end Go.Proofs.YtmcafgmjfgfaeaaDoor
