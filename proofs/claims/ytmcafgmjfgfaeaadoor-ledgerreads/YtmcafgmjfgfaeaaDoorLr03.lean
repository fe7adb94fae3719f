/- GetInt: a reader's panic is caught at its face. -/
import Derived.Test.YtmcafgmjfgfaeaaDoorLr02
namespace Go.Proofs.YtmcafgmjfgfaeaaDoor
open Go.RowKit
set_option linter.unusedSimpArgs false
set_option linter.unusedVariables false

theorem reason_calls (e0 : Int) (w : World) :
    Calls Tryd.prog 75 #[.iface 124 (.agg #[.int .i64 e0])] w fun e w' => e = .returned (.int .i64 e0) ∧ Below w.heap.size w w' := by
  have hta : ∀ w, (Instr.typeAssert (.iface 124 (.agg #[.int .i64 e0])) 20 124 true).run Tryd.prog w = .ok (.tuple #[.agg #[.int .i64 e0], .bool true]) w := fun _ => by kernel_rfl
  go_enter Tryd.func75, Tryd.ntmps75
  go_wp2
  go_ret
  exact ⟨rfl, (Below.refl _ _).alloc (Nat.le_refl _) _⟩
theorem rdr_new (s : ByteArray) (a : Int) (w : World) (t : TypeId) (b : Nat) (hb : b = w.heap.size) : Rdr (w.alloc (.cells #[.string s, .int .i64 a] t)) b s a := by
  subst hb
  refine ⟨?_, ?_, ?_, ?_⟩
  · simp [go_sem]
  · simp [go_sem]
  · simp [go_sem]
  · simp
theorem rdF_le (s : ByteArray) (a : Nat) : ∀ (k i n m nx : Nat), rdF s a k i n = .ok (m, nx) → a ≤ nx ∧ nx ≤ s.size ∧ m ≤ 9007199254740992 := by
  intro k
  induction k with
  | zero => intro i n m nx h; simp [rdF] at h
  | succ k ih =>
    intro i n m nx h
    simp only [rdF] at h
    split at h
    · split at h
      · exact ih _ _ _ _ h
      · split at h
        · cases h
        · simp only [Except.ok.injEq, Prod.mk.injEq] at h; omega
    · cases h

theorem rdInt_le {s : ByteArray} {a m nx : Nat} (h : rdInt s a = .ok (m, nx)) : a ≤ nx ∧ nx ≤ s.size ∧ m ≤ 9007199254740992 := rdF_le s a 8 0 0 m nx h
/-- What a face answers: what was read, the place behind it, OK; or nothing, and why. -/
def gotG (r : Except Int (Nat × Nat)) : Array Value :=
  match r with
  | .ok (n, nx) => #[.int .i64 n, .int .i64 nx, .int .i64 0]
  | .error e => #[.int .i64 0, .int .i64 0, .int .i64 e]
theorem readerAt_ok (s : ByteArray) (a : Nat) (w : World) (ha : a ≤ s.size) :
    Calls Tryd.prog 76 #[.string s, .int .i64 a] w fun e w' => e = .returned (.pointer (some ⟨w.heap.size, 0, none⟩)) ∧ w' = w.alloc (.cells #[.string s, .int .i64 a] 117) := by
  have hnot : ∀ (x : Bool) (w : World), (Op.unary .not (.bool x)).run Tryd.prog w = .ok (.bool (!x)) w := fun _ _ => rfl
  have hd : decide ((a : Int) ≤ s.size) = true := by simpa using ha
  go_enter Tryd.func76, Tryd.ntmps76
  go_wp2
  go_ret
  exact ⟨rfl, rfl⟩

theorem bcell {W w1 : World} (hb : Below W.heap.size W w1) : (∀ b o, b < W.heap.size → w1.cell? ⟨b, o, none⟩ = W.cell? ⟨b, o, none⟩) ∧ (∀ b o, b < W.heap.size → w1.frozen? ⟨b, o, none⟩ = W.frozen? ⟨b, o, none⟩) :=
  ⟨fun b o h => hb.cell (p := ⟨b, o, none⟩) h, fun b o h => hb.frozen (p := ⟨b, o, none⟩) h⟩

theorem getInt1_panicking (b : Nat) (x : Int) (y z e0 : Int) (w : World) (hb : b + 2 < w.heap.size) (h0 : w.cell? ⟨b, 0, none⟩ = some (.int .i64 x)) (h1 : w.cell? ⟨b + 1, 0, none⟩ = some (.int .i64 y)) (h2 : w.cell? ⟨b + 2, 0, none⟩ = some (.int .i64 z))
    (f0 : w.frozen? ⟨b, 0, none⟩ = false) (f1 : w.frozen? ⟨b + 1, 0, none⟩ = false) (f2 : w.frozen? ⟨b + 2, 0, none⟩ = false) :
    CallsD Tryd.prog 74 #[.pointer (some ⟨b, 0, none⟩), .pointer (some ⟨b + 1, 0, none⟩), .pointer (some ⟨b + 2, 0, none⟩)] (.panicking (gu e0)) w fun e u' w' =>
      e = .returned (.tuple #[]) ∧ u' = .panicking [{ v := .iface 124 (.agg #[.int .i64 e0]), recovered := true }] ∧ Below b w w' ∧
      w'.cell? ⟨b, 0, none⟩ = some (.int .i64 0) ∧ w'.cell? ⟨b + 1, 0, none⟩ = some (.int .i64 0) ∧ w'.cell? ⟨b + 2, 0, none⟩ = some (.int .i64 e0) := by
  refine callsD_of_wpS Tryd.func74 rfl fun c₀ cs hu => ?_
  apply wpS_seq
  apply wpS_region
  simp [wpOpsS, go_sem, recoverD, hu, gu, Tryd.ntmps74, Exit.thenS]
  show Code.wpS Tryd.prog _ _ { tmps := #[Value.pointer (some ⟨b, 0, none⟩), Value.pointer (some ⟨b + 1, 0, none⟩), Value.pointer (some ⟨b + 2, 0, none⟩), .iface 124 (.agg #[.int .i64 e0]), .iface 124 (.agg #[.int .i64 e0]), undef, undef, undef, undef], defers := [] } _ _
  refine wpS_of_wp ?_
  go_wp2_with fail
  refine (reason_calls e0 w).mono ?_
  rintro e w1 ⟨rfl, hb1⟩
  obtain ⟨hc, hf⟩ := bcell hb1
  have c0 : w1.cell? ⟨b, 0, none⟩ = some (.int .i64 x) := by rw [hc _ _ (by omega)]; exact h0
  have c1 : w1.cell? ⟨b + 1, 0, none⟩ = some (.int .i64 y) := by rw [hc _ _ (by omega)]; exact h1
  have c2 : w1.cell? ⟨b + 2, 0, none⟩ = some (.int .i64 z) := by rw [hc _ _ (by omega)]; exact h2
  have g0 : w1.frozen? ⟨b, 0, none⟩ = false := by rw [hf _ _ (by omega)]; exact f0
  have g1 : w1.frozen? ⟨b + 1, 0, none⟩ = false := by rw [hf _ _ (by omega)]; exact f1
  have g2 : w1.frozen? ⟨b + 2, 0, none⟩ = false := by rw [hf _ _ (by omega)]; exact f2
  clear hc hf h0 h1 h2 f0 f1 f2
  go_wp2
  refine ⟨rfl, _, rfl, .tuple #[], by simp [results, Tryd.results74], rfl, rfl, ?_, ?_, ?_, ?_⟩
  · exact (((hb1.mono (by omega)).setCell (by simp) _).setCell (by simp) _).setCell (by simp) _
  · simp [go_sem, c0, c1, c2]
  · simp [go_sem, c0, c1, c2]
  · simp [go_sem, c0, c1, c2]

theorem getInt1_idle (p q r : Addr) (w : World) :
    CallsD Tryd.prog 74 #[.pointer (some p), .pointer (some q), .pointer (some r)] .returning w fun e u' w' => e = .returned (.tuple #[]) ∧ u' = .returning ∧ w' = w := by
  refine callsD_of_wpS Tryd.func74 rfl fun c₀ cs hu => ?_
  apply wpS_seq
  apply wpS_region
  simp [wpOpsS, go_sem, recoverD, hu, Tryd.ntmps74, Exit.thenS]
  show Code.wpS Tryd.prog _ _ { tmps := #[Value.pointer (some p), Value.pointer (some q), Value.pointer (some r), .nilIface, .nilIface, undef, undef, undef, undef], defers := [] } _ _
  refine wpS_of_wp ?_
  go_wp2
  cases c₀
  simp_all [bodyPostS, results, Tryd.results74]

theorem getInt_calls (s : ByteArray) (a : Nat) (w : World) (hs : s.size ≤ maxLen) (ha : a ≤ s.size) :
    Calls Tryd.prog 64 #[.string s, .int .i64 a] w fun e w' => e = .returned (.tuple (gotG (rdInt s a))) ∧ Below w.heap.size w w' := by
  have hmf : ∀ (fn : Fn) (first cap : Array Value) (w : World), (Instr.makeFunc fn first cap).run Tryd.prog w = .ok (.func fn first cap) w := fun _ _ _ _ => rfl
  have hn := fun w1 hr => number_calls (w.heap.size + 3) s a w1 hr hs ha
  cases hrd : rdInt s a with
  | error er =>
    rw [hrd] at hn
    clear hrd
    have HN : Hid _ := hn
    clear hn
    go_enter_defers Tryd.func64, Tryd.ntmps64
    go_wp2_with fail
    refine (readerAt_ok s a _ ha).mono ?_
    rintro e w1 ⟨rfl, rfl⟩
    go_wp2_with fail
    refine (HN.out _ (rdr_new s a (((w.alloc (.cells #[.int .i64 0] 3)).alloc (.cells #[.int .i64 0] 3)).alloc (.cells #[.int .i64 0] 32)) 117 _ (by simp))).mono ?_
    rintro e w1 ⟨rfl, ho⟩
    refine leaves_cons (f := 74) (args := #[.pointer (some ⟨w.heap.size, 0, none⟩), .pointer (some ⟨w.heap.size + 1, 0, none⟩), .pointer (some ⟨w.heap.size + 2, 0, none⟩)]) (by simp) (by simp [go_sem]) ?_
    have hz := ho.size
    simp at hz
    refine (getInt1_panicking w.heap.size 0 0 0 er _ (by omega) ?_ ?_ ?_ ?_ ?_ ?_).mono ?_
    · rw [ho.cell (by simp <;> omega) (by simp)]; simp [go_sem]
    · rw [ho.cell (by simp <;> omega) (by simp)]; simp [go_sem]
    · rw [ho.cell (by simp <;> omega) (by simp)]; simp [go_sem]
    · rw [ho.frozen (by simp <;> omega) (by simp)]; simp [go_sem]
    · rw [ho.frozen (by simp <;> omega) (by simp)]; simp [go_sem]
    · rw [ho.frozen (by simp <;> omega) (by simp)]; simp [go_sem]
    rintro e u' w'' ⟨rfl, rfl, hb, q0, q1, q2⟩
    refine ⟨.tuple (gotG (.error er)), by simp [results, Tryd.results64, go_sem, q0, q1, q2, gotG], rfl, ?_⟩
    exact (ho.below (by omega) (show Below w.heap.size w _ by go_grown) (by simp; omega)).trans hb
  | ok p =>
    obtain ⟨n, nx⟩ := p
    rw [hrd] at hn
    clear hrd
    have HN : Hid _ := hn
    clear hn
    go_enter_defers Tryd.func64, Tryd.ntmps64
    go_wp2_with fail
    refine (readerAt_ok s a _ ha).mono ?_
    rintro e w1 ⟨rfl, rfl⟩
    go_wp2_with fail
    refine (HN.out _ (rdr_new s a (((w.alloc (.cells #[.int .i64 0] 3)).alloc (.cells #[.int .i64 0] 3)).alloc (.cells #[.int .i64 0] 32)) 117 _ (by simp))).mono ?_
    rintro e w1 ⟨rfl, ho, hr1⟩
    have hz := ho.size
    simp at hz
    have c0 : w1.cell? ⟨w.heap.size, 0, none⟩ = some (.int .i64 0) := by rw [ho.cell (by simp <;> omega) (by simp)]; simp [go_sem]
    have c1 : w1.cell? ⟨w.heap.size + 1, 0, none⟩ = some (.int .i64 0) := by rw [ho.cell (by simp <;> omega) (by simp)]; simp [go_sem]
    have c2 : w1.cell? ⟨w.heap.size + 2, 0, none⟩ = some (.int .i64 0) := by rw [ho.cell (by simp <;> omega) (by simp)]; simp [go_sem]
    have f0 : w1.frozen? ⟨w.heap.size, 0, none⟩ = false := by rw [ho.frozen (by simp <;> omega) (by simp)]; simp [go_sem]
    have f1 : w1.frozen? ⟨w.heap.size + 1, 0, none⟩ = false := by rw [ho.frozen (by simp <;> omega) (by simp)]; simp [go_sem]
    have f2 : w1.frozen? ⟨w.heap.size + 2, 0, none⟩ = false := by rw [ho.frozen (by simp <;> omega) (by simp)]; simp [go_sem]
    obtain ⟨r1, r2, r3, r4⟩ := hr1
    go_wp2
    go_region
    go_wp2
    refine leaves_cons (f := 74) (args := #[.pointer (some ⟨w.heap.size, 0, none⟩), .pointer (some ⟨w.heap.size + 1, 0, none⟩), .pointer (some ⟨w.heap.size + 2, 0, none⟩)]) (by simp) (by simp [go_sem]) ?_
    refine (getInt1_idle _ _ _ _).mono ?_
    rintro e u' w'' ⟨rfl, rfl, rfl⟩
    refine ⟨.tuple (gotG (.ok (n, nx))), by simp [results, Tryd.results64, go_sem, c0, c1, c2, gotG], rfl, ?_⟩
    have hb := ho.below (B := w.heap.size) (by omega) (show Below w.heap.size w _ by go_grown) (by simp; omega)
    exact ((((hb.setCell (by simp) _).setCell (by simp) _).setCell (by simp) _).setCell (by simp; omega) _).drew
end Go.Proofs.YtmcafgmjfgfaeaaDoor
