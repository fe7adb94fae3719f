/- Bytes as numbers: plain data; the book's numbersOf. -/
import Derived.Test.YtlhfdgeknpmdfaaEnB
import Derived.Test.YtlhfdgeknpmdfaaPure1L
namespace Go.Proofs.Ytlhfdgeknpmdfaa
open Go.RowKit
set_option linter.unusedSimpArgs false
set_option linter.unusedVariables false

def iLu (l : List Int) : List Value := l.map (Value.int .i64)
theorem iLu_snoc (l : List Int) (x : Int) : iLu (l ++ [x]) = iLu l ++ [.int .i64 x] := by simp [iLu]
theorem infoIntU : (Try.prog.info? 3).map (fun i => (i.zero, i.size, i.bytes)) = some (some (.int .i64 0), 1, 8) := by kernel_rfl
theorem below_grownU {B : Nat} {z w w' : World} {row : Option Nat} (h : Below B z w) (hg : w.grownBy w' row) (hr : ∀ k, row = some k → B ≤ k) (hbs : B ≤ w.heap.size) : Below B z w' :=
  h.trans ⟨hg.os, hg.tape, hg.output, hg.size, fun k hk => hg.block k (by omega) (fun e => by have := hr k e.symm; omega)⟩
/-- At most k numbers, and nothing behind them. -/
def nmF : Nat → List UInt8 → Option (List Int)
  | _, [] => some []
  | 0, _ :: _ => none
  | k + 1, c :: l =>
    match rdP 8 0 0 (c :: l) with
    | .ok (m, n) => (nmF k ((c :: l).drop n)).map fun r => (m : Int) :: r
    | .error _ => none
theorem nmF_nil (k : Nat) : nmF k [] = some [] := by cases k <;> rfl
theorem nmF_cons {k : Nat} {l : List UInt8} (h : l ≠ []) : nmF (k + 1) l = match rdP 8 0 0 l with
    | .ok (m, n) => (nmF k (l.drop n)).map fun r => (m : Int) :: r
    | .error _ => none := by
  cases l with
  | nil => exact absurd rfl h
  | cons c l => rfl
theorem nmF_zero {l : List UInt8} (h : l ≠ []) : nmF 0 l = none := by
  cases l with
  | nil => exact absurd rfl h
  | cons c l => rfl
/-- What is laid is read again. -/
theorem nmF_encs : ∀ (k : Nat) (ms : List Int), ms.length ≤ k → (∀ x ∈ ms, 0 ≤ x ∧ x ≤ 9007199254740992) → nmF k (encs ms) = some ms
  | k, [], _, _ => nmF_nil k
  | k + 1, m :: ms, hk, h => by
    have hm := h m (List.mem_cons_self ..)
    have e : encs (m :: ms) = enc m.toNat ++ encs ms := rfl
    have hne : encs (m :: ms) ≠ [] := by
      rw [e]; intro h0
      have h2 := enc_pos m.toNat
      have h1 := congrArg List.length h0
      rw [List.length_append] at h1
      rw [List.length_nil] at h1; omega
    rw [nmF_cons hne, e, rdP_enc0 _ _ (by omega)]
    simp only
    rw [List.drop_append_of_le_length (Nat.le_refl _), List.drop_length, List.nil_append, nmF_encs k ms (by simpa using hk) (fun x hx => h x (List.mem_cons_of_mem _ hx))]
    have : ((m.toNat : Nat) : Int) = m := by omega
    simp [this]
/-- What is read was laid. -/
theorem nmF_canon : ∀ (k : Nat) (l : List UInt8) (ms : List Int), nmF k l = some ms → l = encs ms ∧ ms.length ≤ k ∧ ∀ x ∈ ms, 0 ≤ x ∧ x ≤ 9007199254740992
  | k, [], ms, h => by
    rw [nmF_nil] at h
    cases h
    exact ⟨rfl, Nat.zero_le _, fun x hx => by cases hx⟩
  | 0, c :: l, ms, h => by cases h
  | k + 1, c :: l, ms, h => by
    rw [nmF_cons (by simp)] at h
    cases hr : rdP 8 0 0 (c :: l) with
    | error e => rw [hr] at h; cases h
    | ok q =>
      obtain ⟨m, n⟩ := q
      rw [hr] at h
      simp only at h
      cases hq : nmF k ((c :: l).drop n) with
      | none => rw [hq] at h; cases h
      | some r =>
        rw [hq] at h
        cases h
        obtain ⟨h1, h2, h3⟩ := nmF_canon k _ r hq
        obtain ⟨c1, c2, c3, c4⟩ := rdP_canon0 hr
        refine ⟨?_, by simpa using h2, fun x hx => ?_⟩
        · have e : encs ((m : Int) :: r) = enc m ++ encs r := rfl
          rw [e, ← h1, ← c2, List.take_append_drop]
        · rcases List.mem_cons.1 hx with rfl | hx
          · omega
          · exact h3 x hx
def nm (s : ByteArray) : Option (List Int) := nmF 386 s.data.toList
/-- One more number is read. -/
theorem nmF_step (s : ByteArray) (at_ k : Nat) (h : at_ < s.size) : nmF (k + 1) (s.data.toList.drop at_) = match rdInt s at_ with
    | .ok (m, n) => (nmF k (s.data.toList.drop n)).map fun r => (m : Int) :: r
    | .error _ => none := by
  have hne : s.data.toList.drop at_ ≠ [] := by
    intro h0
    have := congrArg List.length h0
    rw [List.length_drop, Array.length_toList] at this
    have h1 : s.data.size = s.size := rfl
    simp at this; omega
  rw [nmF_cons hne, rdInt_list]
  cases hr : rdP 8 0 0 (s.data.toList.drop at_) with
  | error e => rfl
  | ok q =>
    obtain ⟨m, n⟩ := q
    simp only [shiftR]
    rw [List.drop_drop]
theorem nmF_done (s : ByteArray) (at_ k : Nat) (h : ¬ at_ < s.size) : nmF k (s.data.toList.drop at_) = some [] := by
  have : s.data.toList.drop at_ = [] := List.drop_of_length_le (by rw [Array.length_toList]; show s.size ≤ _; omega)
  rw [this, nmF_nil]
theorem nmF_full (s : ByteArray) (at_ : Nat) (h : at_ < s.size) : nmF 0 (s.data.toList.drop at_) = none := by
  refine nmF_zero ?_
  intro h0
  have := congrArg List.length h0
  rw [List.length_drop, Array.length_toList] at this
  have h1 : s.data.size = s.size := rfl
  simp at this; omega

theorem rdF_err0 (s : ByteArray) (a : Nat) : ∀ (k i n : Nat) (er : Int), rdF s a k i n = .error er → er ≠ 0 := by
  intro k
  induction k with
  | zero => intro i n er h; simp [rdF] at h; omega
  | succ k ih =>
    intro i n er h
    simp only [rdF] at h
    split at h
    · split at h
      · exact ih _ _ _ h
      · split at h
        · simp at h; omega
        · cases h
    · simp at h; omega
theorem rdInt_err0 {s : ByteArray} {a : Nat} {er : Int} (h : rdInt s a = .error er) : er ≠ 0 := rdF_err0 s a 8 0 0 er h
theorem rdInt_gt {s : ByteArray} {a m nx : Nat} (h : rdInt s a = .ok (m, nx)) : a < nx := by
  rw [rdInt_list] at h
  cases hr : rdP 8 0 0 (s.data.toList.drop a) with
  | error e => rw [hr] at h; cases h
  | ok q =>
    obtain ⟨m', n⟩ := q
    rw [hr] at h
    simp only [shiftR, Except.ok.injEq, Prod.mk.injEq] at h
    have := (rdP_canon0 hr).1
    have := enc_pos m'
    omega

set_option maxRecDepth 100000 in
set_option maxHeartbeats 1000000 in
theorem numbersOf_calls (s : ByteArray) (w : World) (hs : s.size ≤ 140737488351232) :
    Calls Try.prog 21 #[.string s] w fun e w' => Below w.heap.size w w' ∧ ((nm s = none ∧ e = .returned (.tuple #[.slice none 0 0, .bool false])) ∨ ∃ ms v, nm s = some ms ∧ e = .returned (.tuple #[v, .bool true]) ∧ w'.ownsRow w.heap.size 3 1 v ms.length (iLu ms)) := by
  obtain ⟨i0, hi, hz0, hz1, hz2⟩ := info_parts infoIntU
  have hsm : s.size ≤ maxLen := by unfold maxLen; omega
  go_enter Try.func21, Try.ntmps21
  go_wp2
  go_loopw [4, 5] (fun o i wr => ∃ (k : Nat) (ms : List Int), k ≤ s.size ∧ i = .int .i64 k ∧ ms.length ≤ 386 ∧ Hid (nm s = (nmF (386 - ms.length) (s.data.toList.drop k)).map fun r => ms ++ r) ∧ wr.ownsRow w.heap.size 3 1 o ms.length (iLu ms) ∧ Below w.heap.size w wr) (fun _ i _ => s.size - (intOf i).toNat)
  case atStart => exact ⟨0, [], Nat.zero_le _, rfl, Nat.zero_le _, by show _ = _; unfold nm; simp, World.ownsRow_nil _ _ _ _, Below.refl _ _⟩
  case round =>
    obtain ⟨k, ms, hk, rfl, hm, hR, ho, br⟩ := hrel
    have zr := br.size
    by_cases hlt : k < s.size
    · have hd : decide ((k : Int) < s.size) = true := by simp only [decide_eq_true_eq]; omega
      have hg := getInt_calls s k wr hsm (by omega)
      have hv : ∃ c cap, u4 = .slice c ms.length cap := by
        rcases ho.2 with ⟨rfl, h⟩ | ⟨g, cap, cur, rfl, _⟩
        · rw [h]; exact ⟨none, 0, rfl⟩
        · exact ⟨_, _, rfl⟩
      obtain ⟨c, cap, rfl⟩ := hv
      by_cases h38 : ms.length = 386
      · have hN : Hid (nm s = none) := by
          have := hR.out
          rw [h38, show 386 - 386 = 0 from rfl, nmF_full s k hlt] at this
          exact this
        rw [h38]
        cases hr : rdInt s k with
        | error er =>
          have her := rdInt_err0 hr
          rw [hr] at hg
          have hde : (er == 0) = false := by simpa using her
          unfold gotG at hg
          clear hR ho
          go_wp2_with fail
          refine hg.mono ?_
          rintro e w1 ⟨rfl, b1⟩
          go_wp2
          go_ret2
          exact ⟨br.trans (b1.mono zr), Or.inl ⟨hN.out, rfl⟩⟩
        | ok q =>
          obtain ⟨m, nx⟩ := q
          rw [hr] at hg
          unfold gotG at hg
          clear hR ho
          go_wp2_with fail
          refine hg.mono ?_
          rintro e w1 ⟨rfl, b1⟩
          go_wp2
          go_ret2
          exact ⟨br.trans (b1.mono zr), Or.inl ⟨hN.out, rfl⟩⟩
      · have hst := nmF_step s k (385 - ms.length) hlt
        have e37 : 385 - ms.length + 1 = 386 - ms.length := by omega
        rw [e37] at hst
        have hd38 : ((ms.length : Int) == 386) = false := by simp; omega
        cases hr : rdInt s k with
        | error er =>
          have her := rdInt_err0 hr
          rw [hr] at hg hst
          have hde : (er == 0) = false := by simpa using her
          have hN : Hid (nm s = none) := by
            have := hR.out
            rw [hst] at this
            exact this
          unfold gotG at hg
          clear hR ho hst
          go_wp2_with fail
          refine hg.mono ?_
          rintro e w1 ⟨rfl, b1⟩
          go_wp2
          go_ret2
          exact ⟨br.trans (b1.mono zr), Or.inl ⟨hN.out, rfl⟩⟩
        | ok q =>
          obtain ⟨m, nx⟩ := q
          obtain ⟨q1, q2, q3⟩ := rdInt_le hr
          have hgt : k < nx := rdInt_gt hr
          rw [hr] at hg hst
          have HN : Hid (nm s = (nmF (386 - (ms ++ [(m : Int)]).length) (s.data.toList.drop nx)).map fun r => (ms ++ [(m : Int)]) ++ r) := by
            show _ = _
            have := hR.out
            rw [hst] at this
            rw [this]
            simp only [Option.map_map, List.length_append, List.length_cons, List.length_nil]
            have e2 : 386 - (ms.length + (0 + 1)) = 385 - ms.length := by omega
            rw [e2]
            congr 1
            funext r
            simp
          have HIL : Hid _ := iLu_snoc ms (m : Int)
          have HO : Hid _ := ho
          unfold gotG at hg
          clear hR ho hst
          go_wp2_with fail
          refine hg.mono ?_
          rintro e w1 ⟨rfl, b1⟩
          have o1 := own_belowL HO.out b1
          have z1 := b1.size
          have B1 := br.trans (b1.mono zr)
          have HO1 : Hid _ := o1
          clear o1 hg
          go_wp2_with (at_builtin; refine wpList_append_own _ rfl (.tmp 27) (.tmp 29) 55 rfl w.heap.size 3 i0 (.int .i64 0) 1 8 Try.underlying55 hi hz0 hz1 hz2 rfl (by decide) _ _ _ rfl (World.ownsRow.alloc HO1.out _) ⟨w1.heap.size, 0, none⟩ 1 1 [.int .i64 m] rfl rfl ?c1 ?c2 ?c3 ?c4 ?c5 ?_)
          case c1 => exact cell_one_new _ _ _
          case c2 => intro u hu; simp at hu; subst hu; rfl
          case c3 => unfold maxLen; omega
          case c4 => omega
          case c5 => simp; omega
          intro v' w4 ho' hg' _
          go_wp2
          refine ⟨⟨nx, ms ++ [(m : Int)], q2, rfl, by simp; omega, HN.out, ?_, ?_⟩, by simp [intOf]; omega⟩
          · rw [HIL.out, List.length_append]; exact ho'
          · exact below_grownU (B1.alloc (by omega) _) hg' (fun q hq => (World.ownsRow.lt HO1.out q hq).1) (by simp; omega)
    · have hd : decide ((k : Int) < s.size) = false := by simp only [decide_eq_false_iff_not]; omega
      have hN : Hid (nm s = some ms) := by
        have := hR.out
        rw [nmF_done s k _ hlt] at this
        show _ = _
        rw [this]; simp
      have hrw := ho
      have HRW : Hid _ := hrw
      clear hR ho hrw
      go_wp2
      go_ret2
      exact ⟨br, Or.inr ⟨ms, _, hN.out, rfl, HRW.out⟩⟩
end Go.Proofs.Ytlhfdgeknpmdfaa
