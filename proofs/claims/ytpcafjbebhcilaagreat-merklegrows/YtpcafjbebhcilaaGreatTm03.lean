/- strings.Clone: the same bytes. -/
import Derived.Test.YtpcafjbebhcilaaGreatTm02
import Derived.Lib.Strings
import Derived.Lib.Walk
import Derived.Lib.BufferWrite
import Derived.Lib.UnsafeStr
import Derived.Lib.Hide
import Derived.Laws.MakeOwn
import Derived.Deep.RegionWith
namespace Go.Proofs.YtpcafjbebhcilaaGreat
open Go.RowKit
set_option linter.unusedSimpArgs false
set_option linter.unusedVariables false

theorem infoByte : (Tryz.prog.info? 5).map (fun i => (i.zero, i.size, i.bytes)) = some (some (.int .u8 0), 1, 1) := by kernel_rfl

set_option maxHeartbeats 4000000 in
set_option maxRecDepth 100000 in
theorem stringsliteClone_calls (s : ByteArray) (w : World) (hlim : s.size ≤ 281474976710656) :
    Calls Tryz.prog 70 #[.string s] w fun e w' => e = .returned (.string s) ∧ Below w.heap.size w w' := by
  by_cases h0 : s.size = 0
  · have hs : s = ⟨#[]⟩ := by
      apply ByteArray.ext
      exact Array.eq_empty_of_size_eq_zero h0
    subst hs
    go_enter Tryz.func70, Tryz.ntmps70
    go_wp2
    go_ret
    exact ⟨rfl, Below.refl _ _⟩
  · obtain ⟨i0, hi, hz0, hz1, hz2⟩ := info_parts infoByte
    have hinfo : (Tryz.prog.info? 5).map (·.size) = some 1 := by rw [hi]; simp [hz1]
    have hco : Tryz.prog.cellsOf 5 = 1 := by simp [Program.cellsOf, hi, hz1]
    obtain ⟨M, hM⟩ : ∃ M, M = madeCells (Value.int .u8 0).cells (((s.size : Nat) : Int).toNat * i0.size) := ⟨_, rfl⟩
    have hMs : M.size = s.size := by rw [hM, size_madeCells, hz1]; simp
    have hmk : ∀ W : World, (Instr.makeSlice 105 (.int .i64 (s.size : Int)) (.int .i64 (s.size : Int))).run Tryz.prog W = .ok (.slice (some ⟨W.heap.size, 0, none⟩) s.size s.size) (W.alloc (.cells M 5)) := fun W => by
      have h := run_make (P := Tryz.prog) W 105 5 i0 (.int .u8 0) Tryz.underlying105 hi hz0 .i64 .i64 (s.size : Int) (s.size : Int) (by omega) (by omega) (by rw [hz2]; omega) (by omega)
      rw [← hM] at h
      simpa using h
    clear hM
    have hcp := Lib.run_copy_row_string (P := Tryz.prog) (w.alloc (.cells M 5)) 105 9 3 5 w.heap.size 0 s.size s.size s M 5 Tryz.underlying105 hinfo (heap_alloc_new w _) (Nat.le_refl _) (by omega)
    obtain ⟨Y, hY⟩ : ∃ Y, Y = (M.toList.take 0 ++ Lib.byteCells s.data.toList ++ M.toList.drop (0 + s.size)).toArray := ⟨_, rfl⟩
    rw [← hY] at hcp
    have hYl : Y.toList = Lib.byteCells s.data.toList := by
      rw [hY, List.toList_toArray, List.take_zero, List.nil_append, List.drop_of_length_le (by rw [Array.length_toList]; omega), List.append_nil]
    have hYs : Y.size = s.size := by rw [← Array.length_toList, hYl, Lib.byteCells_length, ← Lib.size_eq]
    have hgY : ((w.alloc (.cells M 5)).setRow w.heap.size Y).heap[w.heap.size]? = some (.cells Y 5 (0, 0)) := setRow_heap _ _ M _ 5 (0, 0) (heap_alloc_new w _)
    have hne : s.data.toList ≠ [] := fun e => h0 (by rw [Lib.size_eq, e]; rfl)
    have hUS := Lib.run_unsafeString_row (P := Tryz.prog) ((w.alloc (.cells M 5)).setRow w.heap.size Y) 130 3 9 5 Tryz.underlying130 hco w.heap.size Y.size (by unfold World.shape?; rw [hgY]) s.data.toList hne (by rw [← Lib.size_eq]; omega) (by rw [← Lib.size_eq]; omega)
      (fun j x hx => Lib.cells_of_row hgY Y.size j _ (by rw [List.take_of_length_le (by rw [Array.length_toList]; exact Nat.le_refl _), hYl]; simp [Lib.byteCells, hx]))
    rw [← Lib.size_eq] at hUS
    clear hY
    go_enter Tryz.func70, Tryz.ntmps70
    go_wp2
    go_ret
    have hb1 : Below w.heap.size w (w.alloc (.cells M 5)) := (Below.refl _ w).alloc (Nat.le_refl _) _
    have hb2 : Below w.heap.size (w.alloc (.cells M 5)) ((w.alloc (.cells M 5)).setRow w.heap.size Y) := ⟨rfl, rfl, rfl, by simp, fun k hk => setRow_other _ _ _ _ (by omega)⟩
    exact ⟨rfl, Lib.below_freeze (hb1.trans hb2) (p := ⟨w.heap.size, 0, none⟩) (Nat.le_refl _) _⟩

theorem clone_calls (s : ByteArray) (w : World) (hlim : s.size ≤ 281474976710656) :
    Calls Tryz.prog 44 #[.string s] w fun e w' => e = .returned (.string s) ∧ Below w.heap.size w w' := by
  go_enter Tryz.func44, Tryz.ntmps44
  go_wp2_with fail
  refine (stringsliteClone_calls s _ hlim).mono ?_
  rintro e w1 ⟨rfl, hb⟩
  go_wp2
  go_ret
  exact ⟨rfl, hb⟩
end Go.Proofs.YtpcafjbebhcilaaGreat

namespace Go.Proofs.YtpcafjbebhcilaaGreat
open Go.RowKit
set_option linter.unusedSimpArgs false
set_option linter.unusedVariables false

def rdText (s : ByteArray) (a : Nat) : Except Int (ByteArray × Nat) :=
  match rdInt s a with
  | .error e => .error e
  | .ok (n, nx) => if 1048576 < n then .error 4 else if s.size < nx + n then .error 10 else .ok (s.extract nx (nx + n), nx + n)

theorem rdText_le {s : ByteArray} {a nx : Nat} {t : ByteArray} (h : rdText s a = .ok (t, nx)) : a ≤ nx ∧ nx ≤ s.size ∧ t.size ≤ 1048576 := by
  unfold rdText at h
  cases hr : rdInt s a with
  | error e => rw [hr] at h; cases h
  | ok p =>
    obtain ⟨n, m⟩ := p
    have hl := rdInt_le hr
    rw [hr] at h
    simp only at h
    split at h
    · cases h
    · split at h
      · cases h
      · simp only [Except.ok.injEq, Prod.mk.injEq] at h
        obtain ⟨rfl, rfl⟩ := h
        refine ⟨by omega, by omega, ?_⟩
        rw [ByteArray.size_extract]; omega

set_option maxRecDepth 100000 in
set_option maxHeartbeats 1000000 in
theorem text_calls (b : Nat) (s : ByteArray) (a : Nat) (w : World) (hr : Rdr w b s a) (hs : s.size ≤ maxLen) (ha : a ≤ s.size) :
    Calls Tryz.prog 104 #[.pointer (some ⟨b, 0, none⟩)] w (Reads (rdText s a) (fun t => .string t) b s w) := by
  have hn := number_calls b s a w hr hs ha
  unfold maxLen at hs
  unfold rdText
  cases hrd : rdInt s a with
  | error er =>
    rw [hrd] at hn
    go_enter Tryz.func104, Tryz.ntmps104
    go_wp2_with fail
    refine hn.mono ?_
    rintro e w1 ⟨rfl, ho⟩
    exact ⟨rfl, rfl, ho⟩
  | ok p =>
    obtain ⟨n, nx⟩ := p
    have hle := rdInt_le hrd
    rw [hrd] at hn
    clear hrd
    by_cases h : 1048576 < n
    · have hd : decide ((1048576 : Int) < n) = true := by simp only [decide_eq_true_eq]; omega
      simp only [h, if_true]
      go_enter Tryz.func104, Tryz.ntmps104
      go_wp2_with fail
      refine hn.mono ?_
      rintro e w1 ⟨rfl, ho, hr1⟩
      go_wp2
      exact ⟨rfl, rfl, rfl, ho⟩
    · have hd : decide ((1048576 : Int) < n) = false := by simp only [decide_eq_false_iff_not]; omega
      simp only [h, if_false]
      by_cases h2 : s.size < nx + n
      · have hd2 : decide ((s.size : Int) - nx < n) = true := by simp only [decide_eq_true_eq]; omega
        simp only [h2, if_true]
        go_enter Tryz.func104, Tryz.ntmps104
        go_wp2_with fail
        refine hn.mono ?_
        rintro e w1 ⟨rfl, ho, hr1⟩
        obtain ⟨r1, r2, r3, r4⟩ := id hr1
        go_wp2
        go_region
        go_wp2
        exact ⟨rfl, rfl, rfl, ho.drew⟩
      · have hd2 : decide ((s.size : Int) - nx < n) = false := by simp only [decide_eq_false_iff_not]; omega
        have hcl := fun wx => clone_calls (s.extract nx (nx + n)) wx (by rw [ByteArray.size_extract]; omega)
        have HC : Hid _ := hcl
        clear hcl
        have hwr : IntKind.i64.wrap ((nx : Int) + (n : Int)) = ((nx + n : Nat) : Int) := by rw [IntKind.wrap_i64]; omega
        have hsl : ∀ wx : World, (Instr.slice 9 (.string s) (some (.int .i64 (nx : Int))) (some (.int .i64 ((nx : Int) + (n : Int)))) none).run Tryz.prog wx = .ok (.string (s.extract nx (nx + n))) wx := fun wx => by
          have h := run_slice_string (P := Tryz.prog) wx 9 s .i64 .i64 (nx : Int) ((nx : Int) + (n : Int)) Tryz.underlying9 (by omega) (by omega) (by omega)
          have e1 : ((nx : Int)).toNat = nx := by omega
          have e2 : ((nx : Int) + (n : Int)).toNat = nx + n := by omega
          rw [e1, e2] at h
          exact h
        simp only [h2, if_false]
        go_enter Tryz.func104, Tryz.ntmps104
        go_wp2_with fail
        refine hn.mono ?_
        rintro e w1 ⟨rfl, ho, hr1⟩
        obtain ⟨r1, r2, r3, r4⟩ := id hr1
        go_wp2
        go_region
        go_wp2
        go_region_with (go_at_call 44; refine (HC.out _).mono ?_; rintro e w2 ⟨rfl, hb2⟩)
        all_goals
          have hr2 := hr1.drew.drew.below hb2
          obtain ⟨q1, q2, q3, q4⟩ := id hr2
          go_wp2
          go_ret
          exact ⟨rfl, ((ho.drew.drew.trans (Off.of_below hb2)).setCell (p := ⟨b, 1, none⟩) rfl _), hr2.set _⟩

/-- What a face answers: what was read, the place behind it, OK; or nothing, and why. -/
def got (r : Except Int (Nat × Nat)) : Array Value :=
  match r with
  | .ok (n, nx) => #[.int .i64 n, .int .i64 nx, .int .i64 0]
  | .error e => #[.int .i64 0, .int .i64 0, .int .i64 e]

def gotT (r : Except Int (ByteArray × Nat)) : Array Value :=
  match r with
  | .ok (t, nx) => #[.string t, .int .i64 nx, .int .i64 0]
  | .error e => #[.string ⟨#[]⟩, .int .i64 0, .int .i64 e]

end Go.Proofs.YtpcafjbebhcilaaGreat
