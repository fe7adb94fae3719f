/- Of: bytes as a body, or why not. -/
import Derived.Test.YtocphdikppeijaaWx15
namespace Go.Proofs.Ytocphdikppeijaa
open Go.RowKit
set_option linter.unusedVariables false
set_option linter.unusedSimpArgs false

def zeroBd : Bd := ⟨0, 0, 0, 0, 0, ⟨#[]⟩, ⟨#[]⟩, []⟩

set_option maxHeartbeats 2000000 in
theorem of1_panicking (b : Nat) (c0 c1 c2 c3 c4 c5 c6 c7 : Value) (z e0 : Int) (w : World) (X : Blk w b #[c0, c1, c2, c3, c4, c5, c6, c7] 63) (Y : Blk w (b + 1) #[.int .i64 z] 25) :
    CallsD Try.prog 77 #[.pointer (some ⟨b, 0, none⟩), .pointer (some ⟨b + 1, 0, none⟩)] (.panicking (gu e0)) w fun e u' w' =>
      e = .returned (.tuple #[]) ∧ u' = .panicking [{ v := .iface 121 (.agg #[.int .i64 e0]), recovered := true }] ∧ Below b w w' ∧
      Blk w' b #[.int .i64 0, .int .i64 0, .int .i64 0, .int .i64 0, .int .i64 0, .string ⟨#[]⟩, .string ⟨#[]⟩, .slice none 0 0] 63 ∧ Blk w' (b + 1) #[.int .i64 e0] 25 := by
  refine callsD_of_wpS Try.func77 rfl fun c₀ cs hu => ?_
  apply wpS_seq
  apply wpS_region
  simp [wpOpsS, go_sem, recoverD, hu, gu, Try.ntmps77, Exit.thenS]
  show Code.wpS Try.prog _ _ { tmps := #[Value.pointer (some ⟨b, 0, none⟩), Value.pointer (some ⟨b + 1, 0, none⟩), .iface 121 (.agg #[.int .i64 e0]), .iface 121 (.agg #[.int .i64 e0]), undef, undef, undef, undef, undef], defers := [] } _ _
  refine wpS_of_wp ?_
  go_wp2_with fail
  refine (reason_calls e0 w).mono ?_
  rintro e w1 ⟨rfl, hb1⟩
  have X1 := X.below hb1
  have Y1 := Y.below hb1
  have hlt := X.lt
  have d0 := X1.cell (o := 0) rfl
  have f0 := X1.frozen (o := 0)
  have d1 := X1.cell (o := 1) rfl
  have f1 := X1.frozen (o := 1)
  have d2 := X1.cell (o := 2) rfl
  have f2 := X1.frozen (o := 2)
  have d3 := X1.cell (o := 3) rfl
  have f3 := X1.frozen (o := 3)
  have d4 := X1.cell (o := 4) rfl
  have f4 := X1.frozen (o := 4)
  have d5 := X1.cell (o := 5) rfl
  have f5 := X1.frozen (o := 5)
  have d6 := X1.cell (o := 6) rfl
  have f6 := X1.frozen (o := 6)
  have d7 := X1.cell (o := 7) rfl
  have f7 := X1.frozen (o := 7)
  have y0 := Y1.cell (o := 0) rfl
  have g0 := Y1.frozen (o := 0)
  go_wp2
  refine ⟨rfl, _, rfl, .tuple #[], by simp [results, Try.results77], rfl, rfl, ?_, ?_, ?_⟩
  · exact ((((((((((hb1.mono (Nat.le_of_lt hlt)).setCell (p := ⟨b, 0, none⟩) (Nat.le_refl _) _).setCell (p := ⟨b, 1, none⟩) (Nat.le_refl _) _).setCell (p := ⟨b, 2, none⟩) (Nat.le_refl _) _).setCell (p := ⟨b, 3, none⟩) (Nat.le_refl _) _).setCell (p := ⟨b, 4, none⟩) (Nat.le_refl _) _).setCell (p := ⟨b, 5, none⟩) (Nat.le_refl _) _).setCell (p := ⟨b, 6, none⟩) (Nat.le_refl _) _).setCell (p := ⟨b, 7, none⟩) (Nat.le_refl _) _).setCell (p := ⟨b + 1, 0, none⟩) (by simp) _)
  · have hx := (((((((((X1.set 0 (.int .i64 0)).set 1 (.int .i64 0)).set 2 (.int .i64 0)).set 3 (.int .i64 0)).set 4 (.int .i64 0)).set 5 (.string ⟨#[]⟩)).set 6 (.string ⟨#[]⟩)).set 7 (.slice none 0 0)).setOther (p := ⟨b + 1, 0, none⟩) (by simp) (.int .i64 e0))
    simpa using hx
  · have hy := (((((((((Y1.setOther (p := ⟨b, 0, none⟩) (by simp) (.int .i64 0)).setOther (p := ⟨b, 1, none⟩) (by simp) (.int .i64 0)).setOther (p := ⟨b, 2, none⟩) (by simp) (.int .i64 0)).setOther (p := ⟨b, 3, none⟩) (by simp) (.int .i64 0)).setOther (p := ⟨b, 4, none⟩) (by simp) (.int .i64 0)).setOther (p := ⟨b, 5, none⟩) (by simp) (.string ⟨#[]⟩)).setOther (p := ⟨b, 6, none⟩) (by simp) (.string ⟨#[]⟩)).setOther (p := ⟨b, 7, none⟩) (by simp) (.slice none 0 0)).set 0 (.int .i64 e0))
    simpa using hy

theorem of1_idle (p q : Addr) (w : World) :
    CallsD Try.prog 77 #[.pointer (some p), .pointer (some q)] .returning w fun e u' w' => e = .returned (.tuple #[]) ∧ u' = .returning ∧ w' = w := by
  refine callsD_of_wpS Try.func77 rfl fun c₀ cs hu => ?_
  apply wpS_seq
  apply wpS_region
  simp [wpOpsS, go_sem, recoverD, hu, Try.ntmps77, Exit.thenS]
  show Code.wpS Try.prog _ _ { tmps := #[Value.pointer (some p), Value.pointer (some q), .nilIface, .nilIface, undef, undef, undef, undef, undef], defers := [] } _ _
  refine wpS_of_wp ?_
  go_wp2
  cases c₀
  simp_all [bodyPostS, results, Try.results77]

/-- What Of reads. -/
def ofR (s : ByteArray) : Except Int Bd :=
  if 1048576 < s.size then .error 4
  else match rdBd s 0 with
    | .error e => .error e
    | .ok (b, nx) => if nx < s.size then .error 12 else if right b = 0 then .ok b else .error (right b)

def ReadsO (r : Except Int Bd) (w : World) (e : Ending) (w' : World) : Prop :=
  match r with
  | .ok b => ∃ lv, e = .returned (.tuple #[b.val lv, .int .i64 0]) ∧ w'.ownsRow w.heap.size 58 3 lv b.list.length (sgCells b.list) ∧ Below w.heap.size w w'
  | .error er => e = .returned (.tuple #[zeroBd.val (.slice none 0 0), .int .i64 er]) ∧ Below w.heap.size w w'

end Go.Proofs.Ytocphdikppeijaa
