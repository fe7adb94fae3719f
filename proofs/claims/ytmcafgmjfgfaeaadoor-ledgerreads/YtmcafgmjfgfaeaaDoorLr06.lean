/- Laying numbers and texts: bytes behind bytes. -/
import Derived.Test.YtmcafgmjfgfaeaaDoorLr04
import Derived.Test.YtmcafgmjfgfaeaaDoorLr02
import Derived.Deep.RegionWith
import Derived.WalkSpells
import Derived.Lib.AppendStr
import Derived.Laws.IdiomStrings
namespace Go.Proofs.YtmcafgmjfgfaeaaDoor
open Go.RowKit
set_option linter.unusedVariables false
set_option linter.unusedSimpArgs false

def encF : Nat → Nat → List UInt8
  | 0, _ => []
  | k + 1, n => if n < 128 then [UInt8.ofNat n] else UInt8.ofNat (128 + n % 128) :: encF k (n / 128)
def enc (n : Nat) : List UInt8 := encF 10 n

/-- All that is no row of bytes is as it was. -/
structure Kp (w w' : World) : Prop where
  size : w.heap.size ≤ w'.heap.size
  block : ∀ k, k < w.heap.size → (∀ cur fr, w.heap[k]? ≠ some (.cells cur 5 fr)) → w'.heap[k]? = w.heap[k]?

theorem Kp.refl (w : World) : Kp w w := ⟨Nat.le_refl _, fun _ _ _ => rfl⟩
theorem Kp.trans {x y z : World} (h : Kp x y) (k : Kp y z) : Kp x z :=
  ⟨Nat.le_trans h.size k.size, fun i hi hn => by
    have e := h.block i hi hn
    exact (k.block i (Nat.lt_of_lt_of_le hi h.size) (fun cur fr => by rw [e]; exact hn cur fr)).trans e⟩
theorem Kp.of_below {w w' : World} (h : Below w.heap.size w w') : Kp w w' := ⟨h.size, fun k hk _ => h.block k hk⟩
theorem Kp.of_grown {w w' : World} {base n : Nat} {v : Value} {xs : List Value} (hg : w.grownBy w' v.ownBlock) (ho : w.ownsRow base 5 1 v n xs) : Kp w w' :=
  ⟨hg.size, fun k hk hn => hg.block k hk (fun e => by
    rcases ho.2 with ⟨rfl, _⟩ | ⟨g, cap, cur, rfl, _, h, _⟩
    · simp [Value.ownBlock] at e
    · simp [Value.ownBlock] at e
      subst e
      exact hn _ _ h)⟩
theorem Kp.cell {w w' : World} (h : Kp w w') {k o : Nat} {cs : Array Value} {t : TypeId} {fr : Nat × Nat} (hk : w.heap[k]? = some (.cells cs t fr)) (ht : t ≠ 5) : w'.heap[k]? = some (.cells cs t fr) := by
  have hlt : k < w.heap.size := by
    rcases Nat.lt_or_ge k w.heap.size with h1 | h1
    · exact h1
    · rw [Array.getElem?_eq_none h1] at hk; cases hk
  rw [h.block k hlt (fun cur fr' e => by rw [hk] at e; simp at e; exact ht e.2.1)]
  exact hk

theorem byteCells_snoc (d : List UInt8) (c : UInt8) {n : Nat} (h : c.toNat = n) : Lib.byteCells (d ++ [c]) = Lib.byteCells d ++ [.int .u8 (n : Int)] := by
  simp [Lib.byteCells, h]
theorem byteCells_append (d e : List UInt8) : Lib.byteCells (d ++ e) = Lib.byteCells d ++ Lib.byteCells e := by
  simp [Lib.byteCells]

theorem pow10 {n : Nat} (h : n < 9223372036854775808) : n < 128 ^ 10 := Nat.lt_trans h (by decide)

set_option maxRecDepth 100000 in
theorem layInt_calls (base : Nat) (v : Value) (len : Nat) (xs : List Value) (n : Nat) (w : World) (hn : n < 9223372036854775808)
    (hown : w.ownsRow base 5 1 v len xs) (hlen : len ≤ 1000000000000) (hbase : base ≤ w.heap.size) :
    Calls Tryd.prog 71 #[v, .int .i64 n] w fun e w' => ∃ v', e = .returned v' ∧ w'.ownsRow base 5 1 v' (len + (enc n).length) (xs ++ Lib.byteCells (enc n)) ∧ Below base w w' ∧ Kp w w' := by
  obtain ⟨i0, hi, hz0, hz1, hz2⟩ := info_parts infoByte
  go_enter Tryd.func71, Tryd.ntmps71
  go_wp2
  go_loopw [0, 1] (fun o i wr => ∃ (k m : Nat) (d : List UInt8), i = .int .i64 m ∧ m ≤ n ∧ 1 ≤ k ∧ k + d.length = 10 ∧ m < 128 ^ k ∧ Hid (enc n = d ++ encF k m) ∧ wr.ownsRow base 5 1 o (len + d.length) (xs ++ Lib.byteCells d) ∧ Below base w wr ∧ Kp w wr) (fun _ i _ => (intOf i).toNat)
  case atStart => exact ⟨10, n, [], rfl, Nat.le_refl _, by decide, rfl, pow10 hn, rfl, by simpa [Lib.byteCells] using hown, Below.refl _ _, Kp.refl _⟩
  case round =>
    obtain ⟨k, m, d, rfl, hm, hk1, hkd, hmk, hR, ho, hb, hkp⟩ := hrel
    have hkk : ∃ k', k = k' + 1 := ⟨k - 1, by omega⟩
    obtain ⟨k, rfl⟩ := hkk
    by_cases h : m < 128
    · have hfin : Hid (enc n = d ++ [UInt8.ofNat m]) := by
        have e : encF (k + 1) m = [UInt8.ofNat m] := by simp [encF, h]
        rw [← e]; exact hR.out
      have hd : decide ((128 : Int) ≤ m) = false := by simp only [decide_eq_false_iff_not]; omega
      go_wp2_with (at_builtin; refine wpList_append_own _ rfl (.tmp 16) (.tmp 19) 92 rfl base 5 i0 (.int .u8 0) 1 1 Tryd.underlying92 hi hz0 hz1 hz2 rfl (by decide) _ _ _ rfl (ho.alloc _) ⟨wr.heap.size, 0, none⟩ 1 1 [.int .u8 m] rfl rfl ?c1 ?c2 ?c3 ?c4 ?c5 ?_)
      case c1 => exact cell_one_new _ _ _
      case c2 => intro u hu; simp at hu; subst hu; rfl
      case c3 => unfold maxLen; omega
      case c4 => omega
      case c5 => have := hb.size; simp; omega
      intro v' w1 hown' hgrow _
      go_wp2
      go_ret
      refine ⟨v', rfl, ?_, ?_, (hkp.trans (Kp.of_below ((Below.refl _ _).alloc (Nat.le_refl _) _))).trans (Kp.of_grown hgrow (ho.alloc _))⟩
      · rw [hfin.out]
        have e2 : (UInt8.ofNat m).toNat = m := by simp [UInt8.toNat_ofNat']; omega
        simpa [Lib.byteCells, e2, Nat.add_assoc] using hown'
      · have hz := hb.size
        exact (hb.alloc (by omega) _).grown hgrow (by simp; omega) (fun k hk => (ho.lt k hk).1)
    · have e8 : (((m % 128 : Nat) : Int)) < 256 := by omega
      have ha := and127i m (by omega)
      have ho8 : bits .or .u8 ((m : Int) % 128) 128 = 128 + (m : Int) % 128 := by have h8 := or128 (m % 128) (by omega); simpa using h8
      have hd : decide ((128 : Int) ≤ m) = true := by simp only [decide_eq_true_eq]; omega
      go_wp2_with (at_builtin; refine wpList_append_own _ rfl (.tmp 7) (.tmp 12) 92 rfl base 5 i0 (.int .u8 0) 1 1 Tryd.underlying92 hi hz0 hz1 hz2 rfl (by decide) _ _ _ rfl (ho.alloc _) ⟨wr.heap.size, 0, none⟩ 1 1 [.int .u8 (128 + (m : Int) % 128)] rfl rfl ?c1 ?c2 ?c3 ?c4 ?c5 ?_)
      case c1 => exact cell_one_new _ _ _
      case c2 => intro u hu; simp at hu; subst hu; rfl
      case c3 => unfold maxLen; omega
      case c4 => omega
      case c5 => have := hb.size; simp; omega
      intro v' w1 hown' hgrow _
      go_wp2
      have hk2 : 1 ≤ k := by
        rcases Nat.eq_zero_or_pos k with h0 | h0
        · subst h0; simp at hmk; omega
        · exact h0
      have e2 : (UInt8.ofNat (128 + m % 128)).toNat = 128 + m % 128 := by simp [UInt8.toNat_ofNat']; omega
      have hstep : encF (k + 1) m = UInt8.ofNat (128 + m % 128) :: encF k (m / 128) := by simp [encF, h]
      refine ⟨⟨k, m / 128, d ++ [UInt8.ofNat (128 + m % 128)], by simp, by omega, hk2, by simp; omega, ?_, ?_, ?_, ?_, (hkp.trans (Kp.of_below ((Below.refl _ _).alloc (Nat.le_refl _) _))).trans (Kp.of_grown hgrow (ho.alloc _))⟩, by simp [intOf]; omega⟩
      · rw [Nat.pow_succ] at hmk; omega
      · have hR' := hR.out
        rw [hstep] at hR'
        show _ = _
        rw [hR']; simp
      · rw [byteCells_snoc d _ e2, List.length_append]
        simpa [Nat.add_assoc] using hown'
      · have hz := hb.size
        exact (hb.alloc (by omega) _).grown hgrow (by simp; omega) (fun k hk => (ho.lt k hk).1)

theorem encF_le (k : Nat) : ∀ n, (encF k n).length ≤ k := by
  induction k with
  | zero => intro n; simp [encF]
  | succ k ih => intro n; simp only [encF]; split <;> simp; exact ih _
theorem enc_le (n : Nat) : (enc n).length ≤ 10 := encF_le 10 n

/-- A row of bytes as a string. -/
theorem own_convert {base n : Nat} {v : Value} {l : List UInt8} {w : World} (h : w.ownsRow base 5 1 v n (Lib.byteCells l)) :
    (convert 92 9 v).run Tryd.prog w = .ok (.string ⟨l.toArray⟩) w := by
  have hl : l.length = n := by have := h.1; simpa [Lib.byteCells] using this
  obtain ⟨_, h2⟩ := id h
  rcases h2 with ⟨rfl, rfl⟩ | ⟨g, cap, cur, rfl, h3⟩
  · have e : l = [] := List.eq_nil_of_length_eq_zero hl
    subst e
    rw [run_convert_bytes_string w 92 9 5 none 0 0 Tryd.underlying92 Tryd.underlying5 Tryd.underlying9]
    simp [Conv.bytesToString]
    rfl
  · subst hl
    refine run_convert_bytes_back w 92 9 5 ⟨g, 0, none⟩ cap l Tryd.underlying92 Tryd.underlying5 Tryd.underlying9 ?_
    intro j hj
    refine h.cells rfl j _ ?_
    simp [Lib.byteCells, hj]

set_option maxRecDepth 100000 in
theorem layText_calls (base : Nat) (v : Value) (len : Nat) (xs : List Value) (t : ByteArray) (w : World) (ht : t.size ≤ 100000000000)
    (hown : w.ownsRow base 5 1 v len xs) (hlen : len ≤ 1000000000000) (hbase : base ≤ w.heap.size) :
    Calls Tryd.prog 73 #[v, .string t] w fun e w' => ∃ v', e = .returned v' ∧ w'.ownsRow base 5 1 v' (len + (enc t.size ++ t.data.toList).length) (xs ++ Lib.byteCells (enc t.size ++ t.data.toList)) ∧ Below base w w' ∧ Kp w w' := by
  obtain ⟨i0, hi, hz0, hz1, hz2⟩ := info_parts infoByte
  have hli := layInt_calls base v len xs t.size w (by omega) hown hlen hbase
  have hel := enc_le t.size
  go_enter Tryd.func73, Tryd.ntmps73
  go_wp2_with fail
  refine hli.mono ?_
  rintro e w1 ⟨v1, rfl, ho, hb, hkp⟩
  have hz := hb.size
  go_wp2_with (at_builtin; refine Lib.wpList_append_own_string _ rfl (.tmp 8) (.tmp 9) 92 9 rfl base 5 i0 Tryd.underlying92 Tryd.underlying9 hi hz0 hz1 hz2 _ _ _ rfl ho t rfl ?c1 ?c2 ?c3 ?_)
  case c1 => unfold maxLen; omega
  case c2 => omega
  case c3 => omega
  intro v' w2 hown' hgrow _
  go_wp2
  go_ret
  refine ⟨v', rfl, ?_, hb.grown hgrow (by omega) (fun k hk => (ho.lt k hk).1), hkp.trans (Kp.of_grown hgrow ho)⟩
  have hsz : t.data.toList.length = t.size := by rw [Array.length_toList]; rfl
  simpa [Lib.byteCells, Lib.strCells, Nat.add_assoc, hsz] using hown'
end Go.Proofs.YtmcafgmjfgfaeaaDoor
