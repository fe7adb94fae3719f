/- strings.Clone: the same bytes. -/
import Derived.Test.YtocphdikppeijaaGreatLy01
import Derived.Lib.Strings
import Derived.Lib.Walk
import Derived.Lib.BufferWrite
import Derived.Lib.UnsafeStr
import Derived.Lib.Hide
import Derived.Laws.MakeOwn
import Derived.Deep.RegionWith
import Derived.WalkSpells
import Derived.Lib.AppendStr
import Derived.Laws.IdiomStrings
namespace Go.Proofs.YtocphdikppeijaaGreat
open Go.RowKit
set_option linter.unusedSimpArgs false
set_option linter.unusedVariables false

theorem infoByte : (Tryz.prog.info? 5).map (fun i => (i.zero, i.size, i.bytes)) = some (some (.int .u8 0), 1, 1) := by kernel_rfl

set_option maxHeartbeats 4000000 in
set_option maxRecDepth 100000 in
theorem stringsliteClone_calls (s : ByteArray) (w : World) (hlim : s.size ≤ 281474976710656) :
    Calls Tryz.prog 102 #[.string s] w fun e w' => e = .returned (.string s) ∧ Below w.heap.size w w' := by
  by_cases h0 : s.size = 0
  · have hs : s = ⟨#[]⟩ := by
      apply ByteArray.ext
      exact Array.eq_empty_of_size_eq_zero h0
    subst hs
    go_enter Tryz.func102, Tryz.ntmps102
    go_wp2
    go_ret
    exact ⟨rfl, Below.refl _ _⟩
  · obtain ⟨i0, hi, hz0, hz1, hz2⟩ := info_parts infoByte
    have hinfo : (Tryz.prog.info? 5).map (·.size) = some 1 := by rw [hi]; simp [hz1]
    have hco : Tryz.prog.cellsOf 5 = 1 := by simp [Program.cellsOf, hi, hz1]
    obtain ⟨M, hM⟩ : ∃ M, M = madeCells (Value.int .u8 0).cells (((s.size : Nat) : Int).toNat * i0.size) := ⟨_, rfl⟩
    have hMs : M.size = s.size := by rw [hM, size_madeCells, hz1]; simp
    have hmk : ∀ W : World, (Instr.makeSlice 152 (.int .i64 (s.size : Int)) (.int .i64 (s.size : Int))).run Tryz.prog W = .ok (.slice (some ⟨W.heap.size, 0, none⟩) s.size s.size) (W.alloc (.cells M 5)) := fun W => by
      have h := run_make (P := Tryz.prog) W 152 5 i0 (.int .u8 0) Tryz.underlying152 hi hz0 .i64 .i64 (s.size : Int) (s.size : Int) (by omega) (by omega) (by rw [hz2]; omega) (by omega)
      rw [← hM] at h
      simpa using h
    clear hM
    have hcp := Lib.run_copy_row_string (P := Tryz.prog) (w.alloc (.cells M 5)) 152 9 3 5 w.heap.size 0 s.size s.size s M 5 Tryz.underlying152 hinfo (heap_alloc_new w _) (Nat.le_refl _) (by omega)
    obtain ⟨Y, hY⟩ : ∃ Y, Y = (M.toList.take 0 ++ Lib.byteCells s.data.toList ++ M.toList.drop (0 + s.size)).toArray := ⟨_, rfl⟩
    rw [← hY] at hcp
    have hYl : Y.toList = Lib.byteCells s.data.toList := by
      rw [hY, List.toList_toArray, List.take_zero, List.nil_append, List.drop_of_length_le (by rw [Array.length_toList]; omega), List.append_nil]
    have hYs : Y.size = s.size := by rw [← Array.length_toList, hYl, Lib.byteCells_length, ← Lib.size_eq]
    have hgY : ((w.alloc (.cells M 5)).setRow w.heap.size Y).heap[w.heap.size]? = some (.cells Y 5 (0, 0)) := setRow_heap _ _ M _ 5 (0, 0) (heap_alloc_new w _)
    have hne : s.data.toList ≠ [] := fun e => h0 (by rw [Lib.size_eq, e]; rfl)
    have hUS := Lib.run_unsafeString_row (P := Tryz.prog) ((w.alloc (.cells M 5)).setRow w.heap.size Y) 190 3 9 5 Tryz.underlying190 hco w.heap.size Y.size (by unfold World.shape?; rw [hgY]) s.data.toList hne (by rw [← Lib.size_eq]; omega) (by rw [← Lib.size_eq]; omega)
      (fun j x hx => Lib.cells_of_row hgY Y.size j _ (by rw [List.take_of_length_le (by rw [Array.length_toList]; exact Nat.le_refl _), hYl]; simp [Lib.byteCells, hx]))
    rw [← Lib.size_eq] at hUS
    clear hY
    go_enter Tryz.func102, Tryz.ntmps102
    go_wp2
    go_ret
    have hb1 : Below w.heap.size w (w.alloc (.cells M 5)) := (Below.refl _ w).alloc (Nat.le_refl _) _
    have hb2 : Below w.heap.size (w.alloc (.cells M 5)) ((w.alloc (.cells M 5)).setRow w.heap.size Y) := ⟨rfl, rfl, rfl, by simp, fun k hk => setRow_other _ _ _ _ (by omega)⟩
    exact ⟨rfl, Lib.below_freeze (hb1.trans hb2) (p := ⟨w.heap.size, 0, none⟩) (Nat.le_refl _) _⟩

theorem clone_calls (s : ByteArray) (w : World) (hlim : s.size ≤ 281474976710656) :
    Calls Tryz.prog 74 #[.string s] w fun e w' => e = .returned (.string s) ∧ Below w.heap.size w w' := by
  go_enter Tryz.func74, Tryz.ntmps74
  go_wp2_with fail
  refine (stringsliteClone_calls s _ hlim).mono ?_
  rintro e w1 ⟨rfl, hb⟩
  go_wp2
  go_ret
  exact ⟨rfl, hb⟩
end Go.Proofs.YtocphdikppeijaaGreat

namespace Go.Proofs.YtocphdikppeijaaGreat
open Go.RowKit
set_option linter.unusedSimpArgs false
set_option linter.unusedVariables false

def rdText (s : ByteArray) (a : Nat) : Except Int (ByteArray × Nat) :=
  match rdInt s a with
  | .error e => .error e
  | .ok (n, nx) => if 1048576 < n then .error 4 else if s.size < nx + n then .error 10 else .ok (s.extract nx (nx + n), nx + n)

theorem rdText_le {s : ByteArray} {a nx : Nat} {t : ByteArray} (h : rdText s a = .ok (t, nx)) : a ≤ nx ∧ nx ≤ s.size ∧ t.size ≤ 1048576 := by
  unfold rdText at h
  cases hr : rdInt s a with
  | error e => rw [hr] at h; cases h
  | ok p =>
    obtain ⟨n, m⟩ := p
    have hl := rdInt_le hr
    rw [hr] at h
    simp only at h
    split at h
    · cases h
    · split at h
      · cases h
      · simp only [Except.ok.injEq, Prod.mk.injEq] at h
        obtain ⟨rfl, rfl⟩ := h
        refine ⟨by omega, by omega, ?_⟩
        rw [ByteArray.size_extract]; omega

set_option maxRecDepth 100000 in
set_option maxHeartbeats 1000000 in
theorem text_calls (b : Nat) (s : ByteArray) (a : Nat) (w : World) (hr : Rdr w b s a) (hs : s.size ≤ maxLen) (ha : a ≤ s.size) :
    Calls Tryz.prog 117 #[.pointer (some ⟨b, 0, none⟩)] w (Reads (rdText s a) (fun t => .string t) b s w) := by
  have hn := number_calls b s a w hr hs ha
  unfold maxLen at hs
  unfold rdText
  cases hrd : rdInt s a with
  | error er =>
    rw [hrd] at hn
    go_enter Tryz.func117, Tryz.ntmps117
    go_wp2_with fail
    refine hn.mono ?_
    rintro e w1 ⟨rfl, ho⟩
    exact ⟨rfl, rfl, ho⟩
  | ok p =>
    obtain ⟨n, nx⟩ := p
    have hle := rdInt_le hrd
    rw [hrd] at hn
    clear hrd
    by_cases h : 1048576 < n
    · have hd : decide ((1048576 : Int) < n) = true := by simp only [decide_eq_true_eq]; omega
      simp only [h, if_true]
      go_enter Tryz.func117, Tryz.ntmps117
      go_wp2_with fail
      refine hn.mono ?_
      rintro e w1 ⟨rfl, ho, hr1⟩
      go_wp2
      exact ⟨rfl, rfl, rfl, ho⟩
    · have hd : decide ((1048576 : Int) < n) = false := by simp only [decide_eq_false_iff_not]; omega
      simp only [h, if_false]
      by_cases h2 : s.size < nx + n
      · have hd2 : decide ((s.size : Int) - nx < n) = true := by simp only [decide_eq_true_eq]; omega
        simp only [h2, if_true]
        go_enter Tryz.func117, Tryz.ntmps117
        go_wp2_with fail
        refine hn.mono ?_
        rintro e w1 ⟨rfl, ho, hr1⟩
        obtain ⟨r1, r2, r3, r4⟩ := id hr1
        go_wp2
        go_region
        go_wp2
        exact ⟨rfl, rfl, rfl, ho.drew⟩
      · have hd2 : decide ((s.size : Int) - nx < n) = false := by simp only [decide_eq_false_iff_not]; omega
        have hcl := fun wx => clone_calls (s.extract nx (nx + n)) wx (by rw [ByteArray.size_extract]; omega)
        have HC : Hid _ := hcl
        clear hcl
        have hwr : IntKind.i64.wrap ((nx : Int) + (n : Int)) = ((nx + n : Nat) : Int) := by rw [IntKind.wrap_i64]; omega
        have hsl : ∀ wx : World, (Instr.slice 9 (.string s) (some (.int .i64 (nx : Int))) (some (.int .i64 ((nx : Int) + (n : Int)))) none).run Tryz.prog wx = .ok (.string (s.extract nx (nx + n))) wx := fun wx => by
          have h := run_slice_string (P := Tryz.prog) wx 9 s .i64 .i64 (nx : Int) ((nx : Int) + (n : Int)) Tryz.underlying9 (by omega) (by omega) (by omega)
          have e1 : ((nx : Int)).toNat = nx := by omega
          have e2 : ((nx : Int) + (n : Int)).toNat = nx + n := by omega
          rw [e1, e2] at h
          exact h
        simp only [h2, if_false]
        go_enter Tryz.func117, Tryz.ntmps117
        go_wp2_with fail
        refine hn.mono ?_
        rintro e w1 ⟨rfl, ho, hr1⟩
        obtain ⟨r1, r2, r3, r4⟩ := id hr1
        go_wp2
        go_region
        go_wp2
        go_region_with (go_at_call 74; refine (HC.out _).mono ?_; rintro e w2 ⟨rfl, hb2⟩)
        all_goals
          have hr2 := hr1.drew.drew.below hb2
          obtain ⟨q1, q2, q3, q4⟩ := id hr2
          go_wp2
          go_ret
          exact ⟨rfl, ((ho.drew.drew.trans (Off.of_below hb2)).setCell (p := ⟨b, 1, none⟩) rfl _), hr2.set _⟩

/-- What a face answers: what was read, the place behind it, OK; or nothing, and why. -/
def got (r : Except Int (Nat × Nat)) : Array Value :=
  match r with
  | .ok (n, nx) => #[.int .i64 n, .int .i64 nx, .int .i64 0]
  | .error e => #[.int .i64 0, .int .i64 0, .int .i64 e]

def gotT (r : Except Int (ByteArray × Nat)) : Array Value :=
  match r with
  | .ok (t, nx) => #[.string t, .int .i64 nx, .int .i64 0]
  | .error e => #[.string ⟨#[]⟩, .int .i64 0, .int .i64 e]

end Go.Proofs.YtocphdikppeijaaGreat

namespace Go.Proofs.YtocphdikppeijaaGreat
open Go.RowKit
set_option linter.unusedVariables false
set_option linter.unusedSimpArgs false

def encF : Nat → Nat → List UInt8
  | 0, _ => []
  | k + 1, n => if n < 128 then [UInt8.ofNat n] else UInt8.ofNat (128 + n % 128) :: encF k (n / 128)
def enc (n : Nat) : List UInt8 := encF 10 n

/-- All that is no row of bytes is as it was. -/
structure Kp (w w' : World) : Prop where
  size : w.heap.size ≤ w'.heap.size
  block : ∀ k, k < w.heap.size → (∀ cur fr, w.heap[k]? ≠ some (.cells cur 5 fr)) → w'.heap[k]? = w.heap[k]?

theorem Kp.refl (w : World) : Kp w w := ⟨Nat.le_refl _, fun _ _ _ => rfl⟩
theorem Kp.trans {x y z : World} (h : Kp x y) (k : Kp y z) : Kp x z :=
  ⟨Nat.le_trans h.size k.size, fun i hi hn => by
    have e := h.block i hi hn
    exact (k.block i (Nat.lt_of_lt_of_le hi h.size) (fun cur fr => by rw [e]; exact hn cur fr)).trans e⟩
theorem Kp.of_below {w w' : World} (h : Below w.heap.size w w') : Kp w w' := ⟨h.size, fun k hk _ => h.block k hk⟩
theorem Kp.of_grown {w w' : World} {base n : Nat} {v : Value} {xs : List Value} (hg : w.grownBy w' v.ownBlock) (ho : w.ownsRow base 5 1 v n xs) : Kp w w' :=
  ⟨hg.size, fun k hk hn => hg.block k hk (fun e => by
    rcases ho.2 with ⟨rfl, _⟩ | ⟨g, cap, cur, rfl, _, h, _⟩
    · simp [Value.ownBlock] at e
    · simp [Value.ownBlock] at e
      subst e
      exact hn _ _ h)⟩
theorem Kp.cell {w w' : World} (h : Kp w w') {k o : Nat} {cs : Array Value} {t : TypeId} {fr : Nat × Nat} (hk : w.heap[k]? = some (.cells cs t fr)) (ht : t ≠ 5) : w'.heap[k]? = some (.cells cs t fr) := by
  have hlt : k < w.heap.size := by
    rcases Nat.lt_or_ge k w.heap.size with h1 | h1
    · exact h1
    · rw [Array.getElem?_eq_none h1] at hk; cases hk
  rw [h.block k hlt (fun cur fr' e => by rw [hk] at e; simp at e; exact ht e.2.1)]
  exact hk

theorem byteCells_snoc (d : List UInt8) (c : UInt8) {n : Nat} (h : c.toNat = n) : Lib.byteCells (d ++ [c]) = Lib.byteCells d ++ [.int .u8 (n : Int)] := by
  simp [Lib.byteCells, h]
theorem byteCells_append (d e : List UInt8) : Lib.byteCells (d ++ e) = Lib.byteCells d ++ Lib.byteCells e := by
  simp [Lib.byteCells]

theorem pow10 {n : Nat} (h : n < 9223372036854775808) : n < 128 ^ 10 := Nat.lt_trans h (by decide)

set_option maxRecDepth 100000 in
theorem layInt_calls (base : Nat) (v : Value) (len : Nat) (xs : List Value) (n : Nat) (w : World) (hn : n < 9223372036854775808)
    (hown : w.ownsRow base 5 1 v len xs) (hlen : len ≤ 1000000000000) (hbase : base ≤ w.heap.size) :
    Calls Tryz.prog 82 #[v, .int .i64 n] w fun e w' => ∃ v', e = .returned v' ∧ w'.ownsRow base 5 1 v' (len + (enc n).length) (xs ++ Lib.byteCells (enc n)) ∧ Below base w w' ∧ Kp w w' := by
  obtain ⟨i0, hi, hz0, hz1, hz2⟩ := info_parts infoByte
  go_enter Tryz.func82, Tryz.ntmps82
  go_wp2
  go_loopw [0, 1] (fun o i wr => ∃ (k m : Nat) (d : List UInt8), i = .int .i64 m ∧ m ≤ n ∧ 1 ≤ k ∧ k + d.length = 10 ∧ m < 128 ^ k ∧ Hid (enc n = d ++ encF k m) ∧ wr.ownsRow base 5 1 o (len + d.length) (xs ++ Lib.byteCells d) ∧ Below base w wr ∧ Kp w wr) (fun _ i _ => (intOf i).toNat)
  case atStart => exact ⟨10, n, [], rfl, Nat.le_refl _, by decide, rfl, pow10 hn, rfl, by simpa [Lib.byteCells] using hown, Below.refl _ _, Kp.refl _⟩
  case round =>
    obtain ⟨k, m, d, rfl, hm, hk1, hkd, hmk, hR, ho, hb, hkp⟩ := hrel
    have hkk : ∃ k', k = k' + 1 := ⟨k - 1, by omega⟩
    obtain ⟨k, rfl⟩ := hkk
    by_cases h : m < 128
    · have hfin : Hid (enc n = d ++ [UInt8.ofNat m]) := by
        have e : encF (k + 1) m = [UInt8.ofNat m] := by simp [encF, h]
        rw [← e]; exact hR.out
      have hd : decide ((128 : Int) ≤ m) = false := by simp only [decide_eq_false_iff_not]; omega
      go_wp2_with (at_builtin; refine wpList_append_own _ rfl (.tmp 16) (.tmp 19) 152 rfl base 5 i0 (.int .u8 0) 1 1 Tryz.underlying152 hi hz0 hz1 hz2 rfl (by decide) _ _ _ rfl (ho.alloc _) ⟨wr.heap.size, 0, none⟩ 1 1 [.int .u8 m] rfl rfl ?c1 ?c2 ?c3 ?c4 ?c5 ?_)
      case c1 => exact cell_one_new _ _ _
      case c2 => intro u hu; simp at hu; subst hu; rfl
      case c3 => unfold maxLen; omega
      case c4 => omega
      case c5 => have := hb.size; simp; omega
      intro v' w1 hown' hgrow _
      go_wp2
      go_ret
      refine ⟨v', rfl, ?_, ?_, (hkp.trans (Kp.of_below ((Below.refl _ _).alloc (Nat.le_refl _) _))).trans (Kp.of_grown hgrow (ho.alloc _))⟩
      · rw [hfin.out]
        have e2 : (UInt8.ofNat m).toNat = m := by simp [UInt8.toNat_ofNat']; omega
        simpa [Lib.byteCells, e2, Nat.add_assoc] using hown'
      · have hz := hb.size
        exact (hb.alloc (by omega) _).grown hgrow (by simp; omega) (fun k hk => (ho.lt k hk).1)
    · have e8 : (((m % 128 : Nat) : Int)) < 256 := by omega
      have ha := and127i m (by omega)
      have ho8 : bits .or .u8 ((m : Int) % 128) 128 = 128 + (m : Int) % 128 := by have h8 := or128 (m % 128) (by omega); simpa using h8
      have hd : decide ((128 : Int) ≤ m) = true := by simp only [decide_eq_true_eq]; omega
      go_wp2_with (at_builtin; refine wpList_append_own _ rfl (.tmp 7) (.tmp 12) 152 rfl base 5 i0 (.int .u8 0) 1 1 Tryz.underlying152 hi hz0 hz1 hz2 rfl (by decide) _ _ _ rfl (ho.alloc _) ⟨wr.heap.size, 0, none⟩ 1 1 [.int .u8 (128 + (m : Int) % 128)] rfl rfl ?c1 ?c2 ?c3 ?c4 ?c5 ?_)
      case c1 => exact cell_one_new _ _ _
      case c2 => intro u hu; simp at hu; subst hu; rfl
      case c3 => unfold maxLen; omega
      case c4 => omega
      case c5 => have := hb.size; simp; omega
      intro v' w1 hown' hgrow _
      go_wp2
      have hk2 : 1 ≤ k := by
        rcases Nat.eq_zero_or_pos k with h0 | h0
        · subst h0; simp at hmk; omega
        · exact h0
      have e2 : (UInt8.ofNat (128 + m % 128)).toNat = 128 + m % 128 := by simp [UInt8.toNat_ofNat']; omega
      have hstep : encF (k + 1) m = UInt8.ofNat (128 + m % 128) :: encF k (m / 128) := by simp [encF, h]
      refine ⟨⟨k, m / 128, d ++ [UInt8.ofNat (128 + m % 128)], by simp, by omega, hk2, by simp; omega, ?_, ?_, ?_, ?_, (hkp.trans (Kp.of_below ((Below.refl _ _).alloc (Nat.le_refl _) _))).trans (Kp.of_grown hgrow (ho.alloc _))⟩, by simp [intOf]; omega⟩
      · rw [Nat.pow_succ] at hmk; omega
      · have hR' := hR.out
        rw [hstep] at hR'
        show _ = _
        rw [hR']; simp
      · rw [byteCells_snoc d _ e2, List.length_append]
        simpa [Nat.add_assoc] using hown'
      · have hz := hb.size
        exact (hb.alloc (by omega) _).grown hgrow (by simp; omega) (fun k hk => (ho.lt k hk).1)

theorem encF_le (k : Nat) : ∀ n, (encF k n).length ≤ k := by
  induction k with
  | zero => intro n; simp [encF]
  | succ k ih => intro n; simp only [encF]; split <;> simp; exact ih _
theorem enc_le (n : Nat) : (enc n).length ≤ 10 := encF_le 10 n

/-- A row of bytes as a string. -/
theorem own_convert {base n : Nat} {v : Value} {l : List UInt8} {w : World} (h : w.ownsRow base 5 1 v n (Lib.byteCells l)) :
    (convert 152 9 v).run Tryz.prog w = .ok (.string ⟨l.toArray⟩) w := by
  have hl : l.length = n := by have := h.1; simpa [Lib.byteCells] using this
  obtain ⟨_, h2⟩ := id h
  rcases h2 with ⟨rfl, rfl⟩ | ⟨g, cap, cur, rfl, h3⟩
  · have e : l = [] := List.eq_nil_of_length_eq_zero hl
    subst e
    rw [run_convert_bytes_string w 152 9 5 none 0 0 Tryz.underlying152 Tryz.underlying5 Tryz.underlying9]
    simp [Conv.bytesToString]
    rfl
  · subst hl
    refine run_convert_bytes_back w 152 9 5 ⟨g, 0, none⟩ cap l Tryz.underlying152 Tryz.underlying5 Tryz.underlying9 ?_
    intro j hj
    refine h.cells rfl j _ ?_
    simp [Lib.byteCells, hj]

set_option maxRecDepth 100000 in
theorem layText_calls (base : Nat) (v : Value) (len : Nat) (xs : List Value) (t : ByteArray) (w : World) (ht : t.size ≤ 100000000000)
    (hown : w.ownsRow base 5 1 v len xs) (hlen : len ≤ 1000000000000) (hbase : base ≤ w.heap.size) :
    Calls Tryz.prog 83 #[v, .string t] w fun e w' => ∃ v', e = .returned v' ∧ w'.ownsRow base 5 1 v' (len + (enc t.size ++ t.data.toList).length) (xs ++ Lib.byteCells (enc t.size ++ t.data.toList)) ∧ Below base w w' ∧ Kp w w' := by
  obtain ⟨i0, hi, hz0, hz1, hz2⟩ := info_parts infoByte
  have hli := layInt_calls base v len xs t.size w (by omega) hown hlen hbase
  have hel := enc_le t.size
  go_enter Tryz.func83, Tryz.ntmps83
  go_wp2_with fail
  refine hli.mono ?_
  rintro e w1 ⟨v1, rfl, ho, hb, hkp⟩
  have hz := hb.size
  go_wp2_with (at_builtin; refine Lib.wpList_append_own_string _ rfl (.tmp 8) (.tmp 9) 152 9 rfl base 5 i0 Tryz.underlying152 Tryz.underlying9 hi hz0 hz1 hz2 _ _ _ rfl ho t rfl ?c1 ?c2 ?c3 ?_)
  case c1 => unfold maxLen; omega
  case c2 => omega
  case c3 => omega
  intro v' w2 hown' hgrow _
  go_wp2
  go_ret
  refine ⟨v', rfl, ?_, hb.grown hgrow (by omega) (fun k hk => (ho.lt k hk).1), hkp.trans (Kp.of_grown hgrow ho)⟩
  have hsz : t.data.toList.length = t.size := by rw [Array.length_toList]; rfl
  simpa [Lib.byteCells, Lib.strCells, Nat.add_assoc, hsz] using hown'

set_option maxRecDepth 100000 in
theorem fit_calls (base : Nat) (v : Value) (l : List UInt8) (w : World) (hown : w.ownsRow base 5 1 v l.length (Lib.byteCells l)) (hl : l.length ≤ 1000000000000) :
    Calls Tryz.prog 84 #[v] w fun e w' => e = .returned (if 1048576 < l.length then .tuple #[.string ⟨#[]⟩, .int .i64 4] else .tuple #[.string ⟨l.toArray⟩, .int .i64 0]) ∧ w' = w := by
  have hcv := own_convert hown
  have hv : ∃ p c, v = .slice p l.length c := by
    rcases hown.2 with ⟨rfl, h⟩ | ⟨g, cap, cur, rfl, _⟩
    · rw [h]; exact ⟨none, 0, rfl⟩
    · exact ⟨_, _, rfl⟩
  obtain ⟨p, c, rfl⟩ := hv
  by_cases h : 1048576 < l.length
  · have hd : decide ((1048576 : Int) < (l.length : Int)) = true := by simp only [decide_eq_true_eq]; omega
    go_enter Tryz.func84, Tryz.ntmps84
    go_wp2
    go_ret2
    exact ⟨rfl, rfl⟩
  · have hd : decide ((1048576 : Int) < (l.length : Int)) = false := by simp only [decide_eq_false_iff_not]; omega
    go_enter Tryz.func84, Tryz.ntmps84
    go_wp2
    go_ret2
    exact ⟨rfl, rfl⟩
end Go.Proofs.YtocphdikppeijaaGreat
