/- PutInt and PutText. -/
import Derived.Test.YtgofjheoebabeaaGreatHx03
namespace Go.Proofs.YtgofjheoebabeaaGreat
open Go.RowKit
set_option linter.unusedVariables false
set_option linter.unusedSimpArgs false

theorem withinP_calls (n m : Int) (w : World) :
    Calls Tryz.prog 62 #[.int .i64 n, .int .i64 m] w fun e w' => e = .returned (.bool (decide (0 ≤ n ∧ n ≤ m))) ∧ w' = w := by
  by_cases h0 : 0 ≤ n
  · go_enter Tryz.func62, Tryz.ntmps62
    go_wp2
    go_ret
    exact ⟨by simp [h0], rfl⟩
  · have h1 : decide (0 ≤ n) = false := by simpa using h0
    go_enter Tryz.func62, Tryz.ntmps62
    go_wp2
    go_ret
    exact ⟨by simp, rfl⟩

theorem isNumber_calls (n : Int) (w : World) :
    Calls Tryz.prog 44 #[.int .i64 n] w fun e w' => e = .returned (.bool (decide (0 ≤ n ∧ n ≤ 9007199254740992))) ∧ w' = w := by
  go_enter Tryz.func44, Tryz.ntmps44
  go_wp2_with fail
  refine (withinP_calls n 9007199254740992 w).mono ?_
  rintro e w1 ⟨rfl, rfl⟩
  go_wp2
  go_ret
  exact ⟨by simp, rfl⟩

theorem putInt_ok (n : Nat) (w : World) (h : n ≤ 9007199254740992) :
    Calls Tryz.prog 36 #[.int .i64 n] w fun e w' => e = .returned (.tuple #[.string ⟨(enc n).toArray⟩, .int .i64 0]) ∧ Below w.heap.size w w' := by
  have hnot : ∀ (x : Bool) (w : World), (Op.unary .not (.bool x)).run Tryz.prog w = .ok (.bool (!x)) w := fun _ _ => rfl
  have hi := isNumber_calls n w
  have e : decide (0 ≤ (n : Int) ∧ (n : Int) ≤ 9007199254740992) = true := by simp only [decide_eq_true_eq]; omega
  rw [e] at hi
  have hl := layInt_calls w.heap.size (.slice none 0 0) 0 [] n w (by omega) (World.ownsRow_nil _ _ _ _) (by omega) (Nat.le_refl _)
  go_enter Tryz.func36, Tryz.ntmps36
  go_wp2_with fail
  refine hi.mono ?_
  rintro e w1 ⟨rfl, rfl⟩
  go_wp2_with fail
  refine hl.mono ?_
  rintro e w2 ⟨v, rfl, ho, hb, _⟩
  rw [List.nil_append] at ho
  have hcv := own_convert ho
  go_wp2
  go_ret2
  exact ⟨rfl, hb⟩

end Go.Proofs.YtgofjheoebabeaaGreat

namespace Go.Proofs.YtgofjheoebabeaaGreat
open Go.RowKit
set_option linter.unusedSimpArgs false
set_option linter.unusedVariables false

theorem reason_calls (e0 : Int) (w : World) :
    Calls Tryz.prog 47 #[.iface 107 (.agg #[.int .i64 e0])] w fun e w' => e = .returned (.int .i64 e0) ∧ Below w.heap.size w w' := by
  have hta : ∀ w, (Instr.typeAssert (.iface 107 (.agg #[.int .i64 e0])) 20 107 true).run Tryz.prog w = .ok (.tuple #[.agg #[.int .i64 e0], .bool true]) w := fun _ => by kernel_rfl
  go_enter Tryz.func47, Tryz.ntmps47
  go_wp2
  go_ret
  exact ⟨rfl, (Below.refl _ _).alloc (Nat.le_refl _) _⟩

theorem readerOf_ok (s : ByteArray) (m : Int) (w : World) (ha : (s.size : Int) ≤ m) :
    Calls Tryz.prog 48 #[.string s, .int .i64 m] w fun e w' => e = .returned (.pointer (some ⟨w.heap.size, 0, none⟩)) ∧ w' = w.alloc (.cells #[.string s, .int .i64 0] 111) := by
  have hd : decide (m < (s.size : Int)) = false := by simpa using ha
  go_enter Tryz.func48, Tryz.ntmps48
  go_wp2
  go_ret
  exact ⟨rfl, rfl⟩

theorem readerOf_bad (s : ByteArray) (m : Int) (w : World) (ha : m < (s.size : Int)) :
    Calls Tryz.prog 48 #[.string s, .int .i64 m] w fun e w' => e = .panicked (gu 4) ∧ w' = w := by
  go_enter Tryz.func48, Tryz.ntmps48
  go_wp2
  exact ⟨rfl, rfl, rfl, rfl⟩

theorem rdr_new (s : ByteArray) (a : Int) (w : World) (t : TypeId) (b : Nat) (hb : b = w.heap.size) : Rdr (w.alloc (.cells #[.string s, .int .i64 a] t)) b s a := by
  subst hb
  refine ⟨?_, ?_, ?_, ?_⟩
  · simp [go_sem]
  · simp [go_sem]
  · simp [go_sem]
  · simp

theorem end_calls (b : Nat) (s : ByteArray) (a : Nat) (w : World) (hr : Rdr w b s a) :
    Calls Tryz.prog 50 #[.pointer (some ⟨b, 0, none⟩)] w fun e w' => (if a < s.size then e = .panicked (gu 12) else e = .returned (.tuple #[])) ∧ Off b w w' ∧ Rdr w' b s a := by
  obtain ⟨h1, h2, h3, h4⟩ := id hr
  by_cases h : a < s.size
  · have hd : decide ((a : Int) < s.size) = true := by simpa using h
    go_enter Tryz.func50, Tryz.ntmps50
    go_wp2
    go_region
    go_wp2
    exact ⟨rfl, rfl, by rw [if_pos h]; rfl, (Off.refl _ _).drew, hr.drew⟩
  · have hd : decide ((a : Int) < s.size) = false := by simpa using h
    go_enter Tryz.func50, Tryz.ntmps50
    go_wp2
    go_region
    go_wp2
    go_end0
    exact ⟨rfl, (Off.refl _ _).drew, hr.drew⟩

theorem rdF_le (s : ByteArray) (a : Nat) : ∀ (k i n m nx : Nat), rdF s a k i n = .ok (m, nx) → a ≤ nx ∧ nx ≤ s.size ∧ m ≤ 9007199254740992 := by
  intro k
  induction k with
  | zero => intro i n m nx h; simp [rdF] at h
  | succ k ih =>
    intro i n m nx h
    simp only [rdF] at h
    split at h
    · split at h
      · exact ih _ _ _ _ h
      · split at h
        · cases h
        · simp only [Except.ok.injEq, Prod.mk.injEq] at h; omega
    · cases h

theorem rdInt_le {s : ByteArray} {a m nx : Nat} (h : rdInt s a = .ok (m, nx)) : a ≤ nx ∧ nx ≤ s.size ∧ m ≤ 9007199254740992 := rdF_le s a 8 0 0 m nx h

end Go.Proofs.YtgofjheoebabeaaGreat

namespace Go.Proofs.YtgofjheoebabeaaGreat
open Go.RowKit
set_option linter.unusedVariables false
set_option linter.unusedSimpArgs false

def got (r : Except Int (Nat × Nat)) : Array Value :=
  match r with
  | .ok (n, nx) => #[.int .i64 n, .int .i64 nx, .int .i64 0]
  | .error e => #[.int .i64 0, .int .i64 0, .int .i64 e]
set_option maxRecDepth 100000 in
theorem int_ref (s : ByteArray) (a : Nat) (w : World) (hs : s.size ≤ maxLen) (ha : a ≤ s.size) :
    Calls Tryz.prog 26 #[.string s, .int .i64 a] w fun e w' => e = .returned (.tuple (got (rdInt s a))) ∧ w' = w := by
  unfold maxLen at hs
  go_enter Tryz.func26, Tryz.ntmps26
  go_wp2
  go_loop [7, 8, 9] (fun n b i => ∃ k m : Nat, k ≤ 8 ∧ i = .int .i64 k ∧ n = .int .i64 m ∧ b = .int .i64 ((128 ^ k : Nat) : Int) ∧ m < 128 ^ k ∧ Hid (rdF s a (8 - k) k m = rdInt s a) ∧ a + k ≤ s.size) (fun _ _ i => 8 - (intOf i).toNat)
  case atStart => exact ⟨0, 0, by omega, rfl, rfl, rfl, by simp, rfl, by omega⟩
  case round =>
    obtain ⟨k, m, hk, rfl, rfl, rfl, hm, hR, hak⟩ := hrel
    by_cases hk8 : k < 8
    · have hd8 : decide ((k : Int) < 8) = true := by simp only [decide_eq_true_eq]; omega
      by_cases hlt : a + k < s.size
      · have hd : decide ((s.size : Int) ≤ (a : Int) + k) = false := by simp only [decide_eq_false_iff_not]; omega
        have hc : s[a + k].toNat < 256 := s[a + k].toNat_lt
        have hstep : Hid (_ = _) := (rdF_step s a k m (by omega) hlt).symm.trans hR.out
        obtain ⟨c, hcc⟩ : ∃ c, s[a + k].toNat = c := ⟨_, rfl⟩
        have hsm := small128 (c % 128) k (by omega) (by omega)
        have hm' := lt128 m c k hm
        have hB : 128 ^ k ≤ 562949953421312 := Nat.le_trans (Nat.pow_le_pow_right (by decide) (show k ≤ 7 by omega)) (by decide)
        have hB1 : 1 ≤ 128 ^ k := Nat.pow_pos (by decide)
        have hpk : 128 ^ (k + 1) = 128 ^ k * 128 := Nat.pow_succ _ _
        rw [hcc] at hc hstep
        rw [hpk] at hm'
        have HP : Hid _ := hpk
        clear hpk
        generalize 128 ^ k = B at *
        generalize hPe : c % 128 * B = P at *
        have h1 : wrap64 ((c : Int) % 128 * (B : Int)) = (P : Int) := by
          have e : (c : Int) % 128 * (B : Int) = ((c % 128 * B : Nat) : Int) := by simp
          rw [e, hPe]; unfold wrap64; omega
        have h2 : wrap64 ((B : Int) * 128) = ((B * 128 : Nat) : Int) := by unfold wrap64; omega
        clear hPe
        by_cases h128 : 128 ≤ c
        · rw [if_pos h128] at hstep
          go_wp2
          refine ⟨⟨k + 1, m + P, by omega, by go_num, by go_num, ?_, ?_, ?_, by omega⟩, by simp [intOf]; omega⟩
          · rw [HP.out]; go_num
          · rw [HP.out]; exact hm'
          · rw [show 8 - (k + 1) = 7 - k by omega]; exact hstep
        · rw [if_neg h128] at hstep
          have hcn : (c : Int) < 128 := by omega
          by_cases hbad : (c = 0 ∧ 0 < k) ∨ 9007199254740992 < m + P
          · rw [if_pos hbad] at hstep
            by_cases hc0 : c = 0
            · have hk0 : ¬ k = 0 := by
                rcases hbad with h | h
                · omega
                · intro h0; subst h0; have e1 := HP.out; simp at e1; omega
              have hd1 : decide (0 < (k : Int)) = true := by simp only [decide_eq_true_eq]; omega
              subst hc0
              have h1' : wrap64 (0 : Int) = (P : Int) := by simpa using h1
              have hP0 : P = 0 := by unfold wrap64 at h1'; omega
              subst hP0
              clear hbad
              go_wp2
              go_ret3
              exact ⟨by rw [← hstep.out]; rfl, rfl⟩
            · have h3 : 9007199254740992 < (m : Int) + (P : Int) := by
                rcases hbad with h | h
                · exact absurd h.1 hc0
                · omega
              have hc0' : ((c : Int) == 0) = false := by simpa using hc0
              clear hbad
              go_wp2
              go_ret3
              exact ⟨by rw [← hstep.out]; rfl, rfl⟩
          · rw [if_neg hbad] at hstep
            have h3 : ¬ 9007199254740992 < (m : Int) + (P : Int) := by omega
            by_cases hc0 : c = 0
            · have hk0 : k = 0 := by omega
              have hd1 : decide (0 < (k : Int)) = false := by simp only [decide_eq_false_iff_not]; omega
              have HK : Hid (k = 0) := hk0
              clear hk0
              subst hc0
              have h1' : wrap64 (0 : Int) = (P : Int) := by simpa using h1
              have hP0 : P = 0 := by unfold wrap64 at h1'; omega
              subst hP0
              clear hbad
              go_wp2
              go_ret3
              exact ⟨by rw [← hstep.out]; have hk := HK.out; subst hk; rfl, rfl⟩
            · have hc0' : ((c : Int) == 0) = false := by simpa using hc0
              clear hbad
              go_wp2
              go_ret3
              exact ⟨by rw [← hstep.out]; rfl, rfl⟩
      · have hd : decide ((s.size : Int) ≤ (a : Int) + k) = true := by simp only [decide_eq_true_eq]; omega
        have hfin : Hid (rdInt s a = .error 10) := by
          show _ = _
          rw [← hR.out]
          have e : 8 - k = (7 - k) + 1 := by omega
          rw [e]; simp [rdF, hlt]
        clear hR
        go_wp2
        go_ret3
        exact ⟨by rw [hfin.out]; rfl, rfl⟩
    · have hd8 : decide ((k : Int) < 8) = false := by simp only [decide_eq_false_iff_not]; omega
      have hfin : Hid (rdInt s a = .error 11) := by
        show _ = _
        rw [← hR.out]
        have e : 8 - k = 0 := by omega
        rw [e]; rfl
      clear hR
      go_wp2
      go_ret3
      exact ⟨by rw [hfin.out]; rfl, rfl⟩

end Go.Proofs.YtgofjheoebabeaaGreat

namespace Go.Proofs.YtgofjheoebabeaaGreat
open Go.RowKit
set_option linter.unusedVariables false
set_option linter.unusedSimpArgs false

/-- As rdF, over a list: the number and how many bytes in all. -/
def rdP : Nat → Nat → Nat → List UInt8 → Except Int (Nat × Nat)
  | 0, _, _, _ => .error 11
  | k + 1, _, _, [] => .error 10
  | k + 1, i, n, c :: l =>
    if 128 ≤ c.toNat then rdP k (i + 1) (n + c.toNat % 128 * 128 ^ i) l
    else if (c.toNat = 0 ∧ 0 < i) ∨ 9007199254740992 < n + c.toNat % 128 * 128 ^ i then .error 11
    else .ok (n + c.toNat % 128 * 128 ^ i, i + 1)

/-- A reading at a place, out of one over a list. -/
def shiftR {α : Type} (a : Nat) : Except Int (α × Nat) → Except Int (α × Nat)
  | .ok (x, c) => .ok (x, a + c)
  | .error e => .error e

theorem drop_at (s : ByteArray) (j : Nat) (h : j < s.size) : s.data.toList.drop j = s[j] :: s.data.toList.drop (j + 1) := by
  have h' : j < s.data.toList.length := by rw [Array.length_toList]; exact h
  rw [List.drop_eq_getElem_cons h']; rfl

theorem rdF_list (s : ByteArray) (a : Nat) : ∀ (k i n : Nat), rdF s a k i n = shiftR a (rdP k i n (s.data.toList.drop (a + i))) := by
  intro k
  induction k with
  | zero => intro i n; rfl
  | succ k ih =>
    intro i n
    by_cases h : a + i < s.size
    · rw [drop_at s (a + i) h]
      simp only [rdF, h, dite_true, rdP]
      split
      · rw [ih]; rfl
      · split
        · rfl
        · simp [shiftR]; omega
    · have e : s.data.toList.drop (a + i) = [] := List.drop_of_length_le (by rw [Array.length_toList]; show s.size ≤ _; omega)
      rw [e]
      simp only [rdF, h, dite_false, rdP, shiftR]

theorem rdInt_list (s : ByteArray) (a : Nat) : rdInt s a = shiftR a (rdP 8 0 0 (s.data.toList.drop a)) := rdF_list s a 8 0 0

theorem byte_small (m : Nat) (h : m < 256) : (UInt8.ofNat m).toNat = m := by simp [UInt8.toNat_ofNat']; omega

/-- What was laid is read again, whatever stands behind. -/
theorem rdP_enc (post : List UInt8) : ∀ (k K i n m : Nat), k ≤ K → m < 128 ^ k → 1 ≤ k → (0 < i → 0 < m) → n + m * 128 ^ i ≤ 9007199254740992 →
    rdP K i n (encF k m ++ post) = .ok (n + m * 128 ^ i, i + (encF k m).length) := by
  intro k
  induction k with
  | zero => intro K i n m _ _ h; omega
  | succ k ih =>
    intro K i n m hK hm _ hi hn
    obtain ⟨K', rfl⟩ : ∃ K', K = K' + 1 := ⟨K - 1, by omega⟩
    by_cases h : m < 128
    · have e : encF (k + 1) m = [UInt8.ofNat m] := by simp [encF, h]
      rw [e]
      have e2 := byte_small m (by omega)
      have e3 : m % 128 = m := Nat.mod_eq_of_lt h
      simp only [List.cons_append, List.nil_append, rdP, e2, e3]
      rw [if_neg (by omega), if_neg (by omega)]
      simp
    · have e : encF (k + 1) m = UInt8.ofNat (128 + m % 128) :: encF k (m / 128) := by simp [encF, h]
      rw [e]
      have e2 := byte_small (128 + m % 128) (by omega)
      have e3 : (128 + m % 128) % 128 = m % 128 := by omega
      simp only [List.cons_append, rdP, e2, e3]
      rw [if_pos (by omega)]
      have hk : 1 ≤ k := by
        rcases Nat.eq_zero_or_pos k with h0 | h0
        · subst h0; simp at hm; omega
        · exact h0
      have hsplit : m % 128 * 128 ^ i + m / 128 * 128 ^ (i + 1) = m * 128 ^ i := by
        rw [Nat.pow_succ, Nat.mul_comm (128 ^ i) 128, ← Nat.mul_assoc, ← Nat.add_mul]
        congr 1; omega
      have hr := ih K' (i + 1) (n + m % 128 * 128 ^ i) (m / 128) (by omega) (by rw [Nat.pow_succ] at hm; omega) hk (fun _ => by omega) (by omega)
      rw [hr]
      simp only [List.length_cons, Except.ok.injEq, Prod.mk.injEq]
      omega

theorem encF_more : ∀ (k K m : Nat), 1 ≤ k → k ≤ K → m < 128 ^ k → encF K m = encF k m := by
  intro k
  induction k with
  | zero => intro K m h; omega
  | succ k ih =>
    intro K m _ hK hm
    obtain ⟨K', rfl⟩ : ∃ K', K = K' + 1 := ⟨K - 1, by omega⟩
    by_cases h : m < 128
    · simp [encF, h]
    · have hk : 1 ≤ k := by
        rcases Nat.eq_zero_or_pos k with h0 | h0
        · subst h0; simp at hm; omega
        · exact h0
      simp only [encF, h, if_false]
      rw [ih K' (m / 128) hk (by omega) (by rw [Nat.pow_succ] at hm; omega)]

theorem enc8 {m : Nat} (h : m ≤ 9007199254740992) : enc m = encF 8 m := by
  have e : (9007199254740992 : Nat) < 128 ^ 8 := by decide
  exact encF_more 8 10 m (by decide) (by decide) (by omega)

theorem rdP_enc0 (m : Nat) (post : List UInt8) (h : m ≤ 9007199254740992) : rdP 8 0 0 (enc m ++ post) = .ok (m, (enc m).length) := by
  have e : (9007199254740992 : Nat) < 128 ^ 8 := by decide
  rw [enc8 h]
  have hr := rdP_enc post 8 8 0 0 m (Nat.le_refl _) (by omega) (by decide) (fun h => by omega) (by simpa using h)
  simpa using hr

end Go.Proofs.YtgofjheoebabeaaGreat

namespace Go.Proofs.YtgofjheoebabeaaGreat
theorem bytes_len (t : ByteArray) : t.data.toList.length = t.size := by rw [Array.length_toList]; rfl
theorem arr_size (l : List UInt8) : (⟨l.toArray⟩ : ByteArray).size = l.length := by
  show l.toArray.size = _; simp
open Go.RowKit in
theorem Off.own {b : Nat} {x w : World} (h : Off b x w) {p : Addr} (hp : x.heap.size ≤ p.block) (u : Value) : Off b x (w.setCell p u) :=
  ⟨h.os, h.tape, h.output, by simpa [World.setCell] using h.size, fun k hk hb => (Below.heap_setCell _ _ _ _ (by omega)).trans (h.block k hk hb)⟩
end Go.Proofs.YtgofjheoebabeaaGreat

namespace Go.Proofs.YtgofjheoebabeaaGreat
open Go.RowKit
set_option linter.unusedVariables false
set_option linter.unusedSimpArgs false

def leB (x i : Nat) : UInt8 := UInt8.ofNat (x / 256 ^ i % 256)
def leN (x k : Nat) : List UInt8 := (List.range k).map (leB x)
def le8 (x : Nat) : List UInt8 := leN x 8

theorem leN_succ (x k : Nat) : leN x (k + 1) = leN x k ++ [leB x k] := by simp [leN, List.range_succ]
theorem leB_nat (x i : Nat) : (leB x i).toNat = x / 256 ^ i % 256 := by simp [leB, UInt8.toNat_ofNat']

theorem pow256 (k : Nat) : (256 : Nat) ^ k = 2 ^ (8 * k) := by rw [Nat.pow_mul]
theorem run_f64bits (b : Nat) (w : World) : (callFunc 41 #[.float .f64 b]).run Tryz.prog w = .ok (.value (.int .u64 b)) w := by kernel_rfl
theorem run_f64from (n : Nat) (w : World) : (callFunc 27 #[.int .u64 n]).run Tryz.prog w = .ok (.value (.float .f64 n)) w := by kernel_rfl

end Go.Proofs.YtgofjheoebabeaaGreat

namespace Go.Proofs.YtgofjheoebabeaaGreat
open Go.RowKit
set_option linter.unusedVariables false
set_option linter.unusedSimpArgs false

structure Oo where
  k : Int
  g : Int
  a : Int
  d : Int
  i : Int
  pr : Nat

def Oo.val (o : Oo) : Value := .agg #[.int .i64 o.k, .int .i64 o.g, .int .i64 o.a, .int .i64 o.d, .int .i64 o.i, .float .f64 o.pr]
def Oo.ints (o : Oo) : List Int := [o.k, o.g, o.a, o.d, o.i]
def numOk (n : Int) : Bool := decide (0 ≤ n ∧ n ≤ 9007199254740992)
def encI (n : Int) : List UInt8 := enc n.toNat
def opOk (o : Oo) : Bool := o.ints.all numOk
def opB (o : Oo) : List UInt8 := o.ints.flatMap encI ++ le8 o.pr
def opR (o : Oo) : Array Value := if opOk o = true then #[.string ⟨(opB o).toArray⟩, .int .i64 0] else #[.string ⟨#[]⟩, .int .i64 14]

theorem ints_len (o : Oo) : o.ints.length = 5 := rfl
theorem all_split {α : Type} (f : α → Bool) (l : List α) (k : Nat) (h : k < l.length) : l.all f = ((l.take k).all f && (f l[k] && (l.drop (k + 1)).all f)) := by
  have e : l.take k ++ (l[k] :: l.drop (k + 1)) = l := by rw [← List.drop_eq_getElem_cons h, List.take_append_drop]
  rw [← List.all_cons, ← List.all_append, e]
theorem leN_len (x k : Nat) : (leN x k).length = k := by simp [leN]
theorem ints_take_len (o : Oo) (j : Nat) : ((o.ints.take j).flatMap encI).length ≤ 50 := by
  have h1 : ∀ (l : List Int), (l.flatMap encI).length ≤ 10 * l.length := by
    intro l
    induction l with
    | nil => simp
    | cons x l ih =>
      have e := enc_le x.toNat
      rw [List.flatMap_cons, List.length_append, List.length_cons]
      unfold encI at *
      omega
  have h2 := h1 (o.ints.take j)
  have h3 : (o.ints.take j).length ≤ 5 := by rw [List.length_take, ints_len]; omega
  omega

end Go.Proofs.YtgofjheoebabeaaGreat

namespace Go.Proofs.YtgofjheoebabeaaGreat
open Go.RowKit
set_option linter.unusedVariables false
set_option linter.unusedSimpArgs false

def byteAt (s : ByteArray) (j : Nat) : Nat := if h : j < s.size then s[j].toNat else 0
def leSum (s : ByteArray) (a : Nat) : Nat → Nat
  | 0 => 0
  | k + 1 => leSum s a k + byteAt s (a + k) * 256 ^ k

theorem byteAt_lt (s : ByteArray) (j : Nat) : byteAt s j < 256 := by
  unfold byteAt
  split
  · exact UInt8.toNat_lt _
  · decide
theorem leSum_lt (s : ByteArray) (a : Nat) : ∀ k, leSum s a k < 256 ^ k
  | 0 => by simp [leSum]
  | k + 1 => by
    have h1 := leSum_lt s a k
    have h2 := byteAt_lt s (a + k)
    have h3 : byteAt s (a + k) * 256 ^ k ≤ 255 * 256 ^ k := Nat.mul_le_mul_right _ (by omega)
    simp only [leSum]
    rw [Nat.pow_succ]
    omega

def rd8 (s : ByteArray) (a : Nat) : Except Int (Nat × Nat) := if s.size < a + 8 then .error 10 else .ok (leSum s a 8, a + 8)
def rdOp5 (s : ByteArray) (n0 n1 n2 n3 n4 : Nat) (a : Nat) : Except Int (Oo × Nat) :=
  match rd8 s a with
  | .error e => .error e
  | .ok (p, nx) => .ok (⟨n0, n1, n2, n3, n4, p⟩, nx)
def rdOp4 (s : ByteArray) (n0 n1 n2 n3 : Nat) (a : Nat) : Except Int (Oo × Nat) :=
  match rdInt s a with
  | .error e => .error e
  | .ok (n, nx) => rdOp5 s n0 n1 n2 n3 n nx
def rdOp3 (s : ByteArray) (n0 n1 n2 : Nat) (a : Nat) : Except Int (Oo × Nat) :=
  match rdInt s a with
  | .error e => .error e
  | .ok (n, nx) => rdOp4 s n0 n1 n2 n nx
def rdOp2 (s : ByteArray) (n0 n1 : Nat) (a : Nat) : Except Int (Oo × Nat) :=
  match rdInt s a with
  | .error e => .error e
  | .ok (n, nx) => rdOp3 s n0 n1 n nx
def rdOp1 (s : ByteArray) (n0 : Nat) (a : Nat) : Except Int (Oo × Nat) :=
  match rdInt s a with
  | .error e => .error e
  | .ok (n, nx) => rdOp2 s n0 n nx
def rdOp (s : ByteArray) (a : Nat) : Except Int (Oo × Nat) :=
  match rdInt s a with
  | .error e => .error e
  | .ok (n, nx) => rdOp1 s n nx

def ofOpR (s : ByteArray) : Except Int Oo :=
  if 256 < s.size then .error 4
  else match rdOp s 0 with
    | .error e => .error e
    | .ok (o, nx) => if nx < s.size then .error 12 else .ok o

def leVal : List UInt8 → Nat
  | [] => 0
  | c :: l => c.toNat + 256 * leVal l
theorem leVal_snoc (l : List UInt8) (c : UInt8) : leVal (l ++ [c]) = leVal l + c.toNat * 256 ^ l.length := by
  induction l with
  | nil => simp [leVal]
  | cons x l ih =>
    simp only [List.cons_append, leVal, ih, List.length_cons, Nat.pow_succ, Nat.mul_add]
    have e : 256 * (c.toNat * 256 ^ l.length) = c.toNat * (256 ^ l.length * 256) := by
      rw [Nat.mul_left_comm, Nat.mul_comm 256]
    omega
theorem leVal_leN (x : Nat) : ∀ k, leVal (leN x k) = x % 256 ^ k
  | 0 => by simp [leN, leVal, Nat.mod_one]
  | k + 1 => by
    rw [leN_succ, leVal_snoc, leVal_leN x k, leB_nat, leN_len, Nat.pow_succ, Nat.mod_mul]
    rw [Nat.mul_comm (256 ^ k)]
theorem leSum_list (s : ByteArray) (a : Nat) : ∀ k, a + k ≤ s.size → leSum s a k = leVal ((s.data.toList.drop a).take k)
  | 0, _ => by simp [leSum, leVal]
  | k + 1, h => by
    have hk : k < (s.data.toList.drop a).length := by rw [List.length_drop, bytes_len]; omega
    have hlt : a + k < s.size := by omega
    rw [List.take_succ_eq_append_getElem hk, leVal_snoc, ← leSum_list s a k (by omega), List.length_take, Nat.min_eq_left (by omega)]
    simp only [leSum]
    unfold byteAt
    rw [dif_pos hlt]
    congr 2
    rw [List.getElem_drop]
    rfl

theorem rdInt_there (pre post : List UInt8) (m : Nat) (h : m ≤ 9007199254740992) : rdInt ⟨(pre ++ (enc m ++ post)).toArray⟩ pre.length = .ok (m, pre.length + (enc m).length) := by
  rw [rdInt_list]
  simp only [List.toList_toArray, List.drop_left]
  rw [rdP_enc0 m post h]
  rfl
theorem rd8_there (pre : List UInt8) (x : Nat) (h : x < 18446744073709551616) : rd8 ⟨(pre ++ le8 x).toArray⟩ pre.length = .ok (x, pre.length + 8) := by
  have hs : (⟨(pre ++ le8 x).toArray⟩ : ByteArray).size = pre.length + 8 := by rw [arr_size, List.length_append]; rfl
  unfold rd8
  rw [if_neg (by omega), leSum_list _ _ 8 (by omega)]
  simp only [List.toList_toArray, List.drop_left]
  have e : (le8 x).take 8 = le8 x := List.take_of_length_le (by show (leN x 8).length ≤ 8; rw [leN_len]; omega)
  rw [e, show le8 x = leN x 8 from rfl, leVal_leN, Nat.mod_eq_of_lt (by omega)]

theorem opOk_parts {o : Oo} (h : opOk o = true) : (0 ≤ o.k ∧ o.k ≤ 9007199254740992) ∧ (0 ≤ o.g ∧ o.g ≤ 9007199254740992) ∧ (0 ≤ o.a ∧ o.a ≤ 9007199254740992) ∧ (0 ≤ o.d ∧ o.d ≤ 9007199254740992) ∧ (0 ≤ o.i ∧ o.i ≤ 9007199254740992) := by
  simp only [opOk, Oo.ints, List.all_cons, List.all_nil, Bool.and_eq_true, numOk, decide_eq_true_eq] at h
  omega

theorem rdOp_there (o : Oo) (h : opOk o = true) (hp : o.pr < 18446744073709551616) : rdOp ⟨(opB o).toArray⟩ 0 = .ok (o, (opB o).length) := by
  obtain ⟨h0, h1, h2, h3, h4⟩ := opOk_parts h
  obtain ⟨k, g, a, d, i, pr⟩ := o
  simp only at h0 h1 h2 h3 h4 hp
  obtain ⟨n0, rfl⟩ := Int.eq_ofNat_of_zero_le h0.1
  obtain ⟨n1, rfl⟩ := Int.eq_ofNat_of_zero_le h1.1
  obtain ⟨n2, rfl⟩ := Int.eq_ofNat_of_zero_le h2.1
  obtain ⟨n3, rfl⟩ := Int.eq_ofNat_of_zero_le h3.1
  obtain ⟨n4, rfl⟩ := Int.eq_ofNat_of_zero_le h4.1
  have e : opB ⟨(n0 : Int), (n1 : Int), (n2 : Int), (n3 : Int), (n4 : Int), pr⟩ = enc n0 ++ (enc n1 ++ (enc n2 ++ (enc n3 ++ (enc n4 ++ le8 pr)))) := by simp [opB, Oo.ints, encI]
  rw [e]
  have s0 := rdInt_there [] (enc n1 ++ (enc n2 ++ (enc n3 ++ (enc n4 ++ le8 pr)))) n0 (by omega)
  have s1 := rdInt_there (enc n0) (enc n2 ++ (enc n3 ++ (enc n4 ++ le8 pr))) n1 (by omega)
  have s2 := rdInt_there (enc n0 ++ enc n1) (enc n3 ++ (enc n4 ++ le8 pr)) n2 (by omega)
  have s3 := rdInt_there (enc n0 ++ enc n1 ++ enc n2) (enc n4 ++ le8 pr) n3 (by omega)
  have s4 := rdInt_there (enc n0 ++ enc n1 ++ enc n2 ++ enc n3) (le8 pr) n4 (by omega)
  have s5 := rd8_there (enc n0 ++ enc n1 ++ enc n2 ++ enc n3 ++ enc n4) pr hp
  simp only [List.nil_append, List.length_nil, Nat.zero_add, List.append_assoc, List.length_append] at s0 s1 s2 s3 s4 s5
  simp only [← Nat.add_assoc] at s0 s1 s2 s3 s4 s5
  unfold rdOp
  rw [s0]
  simp only [rdOp1]
  rw [s1]
  simp only [rdOp2]
  rw [s2]
  simp only [rdOp3]
  rw [s3]
  simp only [rdOp4]
  rw [s4]
  simp only [rdOp5]
  rw [s5]
  have e8 : (le8 pr).length = 8 := leN_len _ _
  simp only [Except.ok.injEq, Prod.mk.injEq, true_and, List.length_append, e8]
  omega

theorem of_op (o : Oo) (h : opOk o = true) (hp : o.pr < 18446744073709551616) : ofOpR ⟨(opB o).toArray⟩ = .ok o := by
  have hl : (opB o).length ≤ 58 := by
    have h1 := ints_take_len o 5
    have e8 : (le8 o.pr).length = 8 := leN_len _ _
    unfold opB
    rw [List.length_append]
    have e5 : o.ints.take 5 = o.ints := rfl
    rw [e5] at h1
    omega
  unfold ofOpR
  rw [arr_size, if_neg (by omega), rdOp_there o h hp]
  simp only
  rw [if_neg (by omega)]
end Go.Proofs.YtgofjheoebabeaaGreat
