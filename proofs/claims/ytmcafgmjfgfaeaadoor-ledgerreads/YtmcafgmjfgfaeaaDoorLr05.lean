/- GetText: a text behind its length. -/
import Derived.Test.YtmcafgmjfgfaeaaDoorLr03
import Derived.Test.YtmcafgmjfgfaeaaDoorLr04
import Derived.Deep.RegionWith
namespace Go.Proofs.YtmcafgmjfgfaeaaDoor
open Go.RowKit
set_option linter.unusedSimpArgs false
set_option linter.unusedVariables false

def rdText (s : ByteArray) (a : Nat) : Except Int (ByteArray × Nat) :=
  match rdInt s a with
  | .error e => .error e
  | .ok (n, nx) => if 1048576 < n then .error 4 else if s.size < nx + n then .error 10 else .ok (s.extract nx (nx + n), nx + n)

set_option maxRecDepth 100000 in
set_option maxHeartbeats 1000000 in
theorem text_calls (b : Nat) (s : ByteArray) (a : Nat) (w : World) (hr : Rdr w b s a) (hs : s.size ≤ maxLen) (ha : a ≤ s.size) :
    Calls Tryd.prog 79 #[.pointer (some ⟨b, 0, none⟩)] w (Reads (rdText s a) (fun t => .string t) b s w) := by
  have hn := number_calls b s a w hr hs ha
  unfold maxLen at hs
  unfold rdText
  cases hrd : rdInt s a with
  | error er =>
    rw [hrd] at hn
    go_enter Tryd.func79, Tryd.ntmps79
    go_wp2_with fail
    refine hn.mono ?_
    rintro e w1 ⟨rfl, ho⟩
    exact ⟨rfl, rfl, ho⟩
  | ok p =>
    obtain ⟨n, nx⟩ := p
    have hle := rdInt_le hrd
    rw [hrd] at hn
    clear hrd
    by_cases h : 1048576 < n
    · have hd : decide ((1048576 : Int) < n) = true := by simp only [decide_eq_true_eq]; omega
      simp only [h, if_true]
      go_enter Tryd.func79, Tryd.ntmps79
      go_wp2_with fail
      refine hn.mono ?_
      rintro e w1 ⟨rfl, ho, hr1⟩
      go_wp2
      exact ⟨rfl, rfl, rfl, ho⟩
    · have hd : decide ((1048576 : Int) < n) = false := by simp only [decide_eq_false_iff_not]; omega
      simp only [h, if_false]
      by_cases h2 : s.size < nx + n
      · have hd2 : decide ((s.size : Int) - nx < n) = true := by simp only [decide_eq_true_eq]; omega
        simp only [h2, if_true]
        go_enter Tryd.func79, Tryd.ntmps79
        go_wp2_with fail
        refine hn.mono ?_
        rintro e w1 ⟨rfl, ho, hr1⟩
        obtain ⟨r1, r2, r3, r4⟩ := id hr1
        go_wp2
        go_region
        go_wp2
        exact ⟨rfl, rfl, rfl, ho.drew⟩
      · have hd2 : decide ((s.size : Int) - nx < n) = false := by simp only [decide_eq_false_iff_not]; omega
        have hcl := fun wx => clone_calls (s.extract nx (nx + n)) wx (by rw [ByteArray.size_extract]; omega)
        have HC : Hid _ := hcl
        clear hcl
        have hwr : IntKind.i64.wrap ((nx : Int) + (n : Int)) = ((nx + n : Nat) : Int) := by rw [IntKind.wrap_i64]; omega
        have hsl : ∀ wx : World, (Instr.slice 9 (.string s) (some (.int .i64 (nx : Int))) (some (.int .i64 ((nx : Int) + (n : Int)))) none).run Tryd.prog wx = .ok (.string (s.extract nx (nx + n))) wx := fun wx => by
          have h := run_slice_string (P := Tryd.prog) wx 9 s .i64 .i64 (nx : Int) ((nx : Int) + (n : Int)) Tryd.underlying9 (by omega) (by omega) (by omega)
          have e1 : ((nx : Int)).toNat = nx := by omega
          have e2 : ((nx : Int) + (n : Int)).toNat = nx + n := by omega
          rw [e1, e2] at h
          exact h
        simp only [h2, if_false]
        go_enter Tryd.func79, Tryd.ntmps79
        go_wp2_with fail
        refine hn.mono ?_
        rintro e w1 ⟨rfl, ho, hr1⟩
        obtain ⟨r1, r2, r3, r4⟩ := id hr1
        go_wp2
        go_region
        go_wp2
        go_region_with (go_at_call 56; refine (HC.out _).mono ?_; rintro e w2 ⟨rfl, hb2⟩)
        all_goals
          have hr2 := hr1.drew.drew.below hb2
          obtain ⟨q1, q2, q3, q4⟩ := id hr2
          go_wp2
          go_ret
          exact ⟨rfl, ((ho.drew.drew.trans (Off.of_below hb2)).setCell (p := ⟨b, 1, none⟩) rfl _), hr2.set _⟩

def gotT (r : Except Int (ByteArray × Nat)) : Array Value :=
  match r with
  | .ok (t, nx) => #[.string t, .int .i64 nx, .int .i64 0]
  | .error e => #[.string ⟨#[]⟩, .int .i64 0, .int .i64 e]
theorem getText1_panicking (b : Nat) (x : ByteArray) (y z e0 : Int) (w : World) (hb : b + 2 < w.heap.size) (h0 : w.cell? ⟨b, 0, none⟩ = some (.string x)) (h1 : w.cell? ⟨b + 1, 0, none⟩ = some (.int .i64 y)) (h2 : w.cell? ⟨b + 2, 0, none⟩ = some (.int .i64 z))
    (f0 : w.frozen? ⟨b, 0, none⟩ = false) (f1 : w.frozen? ⟨b + 1, 0, none⟩ = false) (f2 : w.frozen? ⟨b + 2, 0, none⟩ = false) :
    CallsD Tryd.prog 78 #[.pointer (some ⟨b, 0, none⟩), .pointer (some ⟨b + 1, 0, none⟩), .pointer (some ⟨b + 2, 0, none⟩)] (.panicking (gu e0)) w fun e u' w' =>
      e = .returned (.tuple #[]) ∧ u' = .panicking [{ v := .iface 124 (.agg #[.int .i64 e0]), recovered := true }] ∧ Below b w w' ∧
      w'.cell? ⟨b, 0, none⟩ = some (.string ⟨#[]⟩) ∧ w'.cell? ⟨b + 1, 0, none⟩ = some (.int .i64 0) ∧ w'.cell? ⟨b + 2, 0, none⟩ = some (.int .i64 e0) := by
  refine callsD_of_wpS Tryd.func78 rfl fun c₀ cs hu => ?_
  apply wpS_seq
  apply wpS_region
  simp [wpOpsS, go_sem, recoverD, hu, gu, Tryd.ntmps78, Exit.thenS]
  show Code.wpS Tryd.prog _ _ { tmps := #[Value.pointer (some ⟨b, 0, none⟩), Value.pointer (some ⟨b + 1, 0, none⟩), Value.pointer (some ⟨b + 2, 0, none⟩), .iface 124 (.agg #[.int .i64 e0]), .iface 124 (.agg #[.int .i64 e0]), undef, undef, undef, undef], defers := [] } _ _
  refine wpS_of_wp ?_
  go_wp2_with fail
  refine (reason_calls e0 w).mono ?_
  rintro e w1 ⟨rfl, hb1⟩
  obtain ⟨hc, hf⟩ := bcell hb1
  have c0 : w1.cell? ⟨b, 0, none⟩ = some (.string x) := by rw [hc _ _ (by omega)]; exact h0
  have c1 : w1.cell? ⟨b + 1, 0, none⟩ = some (.int .i64 y) := by rw [hc _ _ (by omega)]; exact h1
  have c2 : w1.cell? ⟨b + 2, 0, none⟩ = some (.int .i64 z) := by rw [hc _ _ (by omega)]; exact h2
  have g0 : w1.frozen? ⟨b, 0, none⟩ = false := by rw [hf _ _ (by omega)]; exact f0
  have g1 : w1.frozen? ⟨b + 1, 0, none⟩ = false := by rw [hf _ _ (by omega)]; exact f1
  have g2 : w1.frozen? ⟨b + 2, 0, none⟩ = false := by rw [hf _ _ (by omega)]; exact f2
  clear hc hf h0 h1 h2 f0 f1 f2
  go_wp2
  refine ⟨rfl, _, rfl, .tuple #[], by simp [results, Tryd.results78], rfl, rfl, ?_, ?_, ?_, ?_⟩
  · exact (((hb1.mono (by omega)).setCell (by simp) _).setCell (by simp) _).setCell (by simp) _
  · simp [go_sem, c0, c1, c2]
  · simp [go_sem, c0, c1, c2]
  · simp [go_sem, c0, c1, c2]

theorem getText1_idle (p q r : Addr) (w : World) :
    CallsD Tryd.prog 78 #[.pointer (some p), .pointer (some q), .pointer (some r)] .returning w fun e u' w' => e = .returned (.tuple #[]) ∧ u' = .returning ∧ w' = w := by
  refine callsD_of_wpS Tryd.func78 rfl fun c₀ cs hu => ?_
  apply wpS_seq
  apply wpS_region
  simp [wpOpsS, go_sem, recoverD, hu, Tryd.ntmps78, Exit.thenS]
  show Code.wpS Tryd.prog _ _ { tmps := #[Value.pointer (some p), Value.pointer (some q), Value.pointer (some r), .nilIface, .nilIface, undef, undef, undef, undef], defers := [] } _ _
  refine wpS_of_wp ?_
  go_wp2
  cases c₀
  simp_all [bodyPostS, results, Tryd.results78]

theorem getText_calls (s : ByteArray) (a : Nat) (w : World) (hs : s.size ≤ maxLen) (ha : a ≤ s.size) :
    Calls Tryd.prog 65 #[.string s, .int .i64 a] w fun e w' => e = .returned (.tuple (gotT (rdText s a))) ∧ Below w.heap.size w w' := by
  have hmf : ∀ (fn : Fn) (first cap : Array Value) (w : World), (Instr.makeFunc fn first cap).run Tryd.prog w = .ok (.func fn first cap) w := fun _ _ _ _ => rfl
  have hn := fun w1 hr => text_calls (w.heap.size + 3) s a w1 hr hs ha
  cases hrd : rdText s a with
  | error er =>
    rw [hrd] at hn
    clear hrd
    have HN : Hid _ := hn
    clear hn
    go_enter_defers Tryd.func65, Tryd.ntmps65
    go_wp2_with fail
    refine (readerAt_ok s a _ ha).mono ?_
    rintro e w1 ⟨rfl, rfl⟩
    go_wp2_with fail
    refine (HN.out _ (rdr_new s a (((w.alloc (.cells #[.string ⟨#[]⟩] 9)).alloc (.cells #[.int .i64 0] 3)).alloc (.cells #[.int .i64 0] 32)) 117 _ (by simp))).mono ?_
    rintro e w1 ⟨rfl, ho⟩
    refine leaves_cons (f := 78) (args := #[.pointer (some ⟨w.heap.size, 0, none⟩), .pointer (some ⟨w.heap.size + 1, 0, none⟩), .pointer (some ⟨w.heap.size + 2, 0, none⟩)]) (by simp) (by simp [go_sem]) ?_
    have hz := ho.size
    simp at hz
    refine (getText1_panicking w.heap.size ⟨#[]⟩ 0 0 er _ (by omega) ?_ ?_ ?_ ?_ ?_ ?_).mono ?_
    · rw [ho.cell (by simp <;> omega) (by simp)]; simp [go_sem]
    · rw [ho.cell (by simp <;> omega) (by simp)]; simp [go_sem]
    · rw [ho.cell (by simp <;> omega) (by simp)]; simp [go_sem]
    · rw [ho.frozen (by simp <;> omega) (by simp)]; simp [go_sem]
    · rw [ho.frozen (by simp <;> omega) (by simp)]; simp [go_sem]
    · rw [ho.frozen (by simp <;> omega) (by simp)]; simp [go_sem]
    rintro e u' w'' ⟨rfl, rfl, hb, q0, q1, q2⟩
    refine ⟨.tuple (gotT (.error er)), by simp [results, Tryd.results65, go_sem, q0, q1, q2, gotT], rfl, ?_⟩
    exact (ho.below (by omega) (show Below w.heap.size w _ by go_grown) (by simp; omega)).trans hb
  | ok p =>
    obtain ⟨n, nx⟩ := p
    rw [hrd] at hn
    clear hrd
    have HN : Hid _ := hn
    clear hn
    go_enter_defers Tryd.func65, Tryd.ntmps65
    go_wp2_with fail
    refine (readerAt_ok s a _ ha).mono ?_
    rintro e w1 ⟨rfl, rfl⟩
    go_wp2_with fail
    refine (HN.out _ (rdr_new s a (((w.alloc (.cells #[.string ⟨#[]⟩] 9)).alloc (.cells #[.int .i64 0] 3)).alloc (.cells #[.int .i64 0] 32)) 117 _ (by simp))).mono ?_
    rintro e w1 ⟨rfl, ho, hr1⟩
    have hz := ho.size
    simp at hz
    have c0 : w1.cell? ⟨w.heap.size, 0, none⟩ = some (.string ⟨#[]⟩) := by rw [ho.cell (by simp <;> omega) (by simp)]; simp [go_sem]
    have c1 : w1.cell? ⟨w.heap.size + 1, 0, none⟩ = some (.int .i64 0) := by rw [ho.cell (by simp <;> omega) (by simp)]; simp [go_sem]
    have c2 : w1.cell? ⟨w.heap.size + 2, 0, none⟩ = some (.int .i64 0) := by rw [ho.cell (by simp <;> omega) (by simp)]; simp [go_sem]
    have f0 : w1.frozen? ⟨w.heap.size, 0, none⟩ = false := by rw [ho.frozen (by simp <;> omega) (by simp)]; simp [go_sem]
    have f1 : w1.frozen? ⟨w.heap.size + 1, 0, none⟩ = false := by rw [ho.frozen (by simp <;> omega) (by simp)]; simp [go_sem]
    have f2 : w1.frozen? ⟨w.heap.size + 2, 0, none⟩ = false := by rw [ho.frozen (by simp <;> omega) (by simp)]; simp [go_sem]
    obtain ⟨r1, r2, r3, r4⟩ := hr1
    go_wp2
    go_region
    go_wp2
    refine leaves_cons (f := 78) (args := #[.pointer (some ⟨w.heap.size, 0, none⟩), .pointer (some ⟨w.heap.size + 1, 0, none⟩), .pointer (some ⟨w.heap.size + 2, 0, none⟩)]) (by simp) (by simp [go_sem]) ?_
    refine (getText1_idle _ _ _ _).mono ?_
    rintro e u' w'' ⟨rfl, rfl, rfl⟩
    refine ⟨.tuple (gotT (.ok (n, nx))), by simp [results, Tryd.results65, go_sem, c0, c1, c2, gotT], rfl, ?_⟩
    have hb := ho.below (B := w.heap.size) (by omega) (show Below w.heap.size w _ by go_grown) (by simp; omega)
    exact ((((hb.setCell (by simp) _).setCell (by simp) _).setCell (by simp) _).setCell (by simp; omega) _).drew
end Go.Proofs.YtmcafgmjfgfaeaaDoor
