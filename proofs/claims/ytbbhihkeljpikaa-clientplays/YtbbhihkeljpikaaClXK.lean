/- Texts and acts that come in as arguments. -/
import Derived.Test.YtbbhihkeljpikaaClJ
import Derived.Lib.ConvBytes
namespace Go.Proofs.Ytbbhihkeljpikaa
open Go.ChangeShapes Go.WideShapes Go.ChangeAt Go.RowKit Go.Deep
set_option linter.unusedSimpArgs false
set_option linter.unusedVariables false

/-- An act. -/
structure Ac where
  kind : Int
  frm : Int
  by_ : Int
  text : ByteArray
def Ac.cells (a : Ac) : List Value := [.int .i64 a.kind, .int .i64 a.frm, .int .i64 a.by_, .string a.text]
def Ac.fit (a : Ac) : Prop := a.text.size ≤ 140737488351232
section
variable {H : Type} {enc : TypeId × Value → H} {w : World} {base : Nat} {spare : Nat → Bool} {held : Bool}
theorem cellsAct : Try.prog.cellsOf 40 = 4 := by kernel_rfl
theorem list4 {α : Type} {l : List α} (h : l.length = 4) : ∃ a b c d, l = [a, b, c, d] := by
  match l, h with
  | [a, b, c, d], _ => exact ⟨a, b, c, d, rfl⟩
theorem open_ac {fuel : Nat} {cs : List Value} {x : DataW H × List MemPlace} (hx : DataW.trod enc Try.prog w base spare held fuel 40 cs = some x) (hw : (x.1.weights Try.prog 40).all (· ≤ reachBytes) = true) : ∃ a : Ac, cs = a.cells ∧ a.fit := by
  obtain ⟨xs, n, _, hxe, hl, hlen, hfl⟩ := DataW.trod_struct Try.underlying40 hx
  rw [cellsAct] at hl
  obtain ⟨k0, k1, k2, k3, rfl⟩ := list4 hl
  obtain ⟨y0, y1, y2, y3, hxs⟩ := list4 (l := xs) (by simpa using hlen)
  subst hxs
  have g0 := hfl 0 _ rfl
  have g1 := hfl 1 _ rfl
  have g2 := hfl 2 _ rfl
  have g3 := hfl 3 _ rfl
  simp only [cells_Int, cells_Str, List.drop_zero, List.drop_succ_cons, List.take_succ_cons, List.take_zero, List.getElem?_cons_zero, List.getElem?_cons_succ] at g0 g1 g2 g3
  obtain ⟨i0, e0, _, _⟩ := DataW.trod_int Try.underlying3 g0
  obtain ⟨i1, e1, _, _⟩ := DataW.trod_int Try.underlying3 g1
  obtain ⟨i2, e2, _, _⟩ := DataW.trod_int Try.underlying3 g2
  obtain ⟨s3, e3, d3, _⟩ := DataW.trod_string Try.underlying9 g3
  have q0 : k0 = .int .i64 i0 := by simpa [cells_Int] using e0
  have q1 : k1 = .int .i64 i1 := by simpa [cells_Int] using e1
  have q2 : k2 = .int .i64 i2 := by simpa [cells_Int] using e2
  have q3 : k3 = .string s3 := by simpa [cells_Str] using e3
  have hd : x.1 = .agg [y0.1, y1.1, y2.1, y3.1] := by simpa using congrArg Prod.fst hxe
  rw [hd] at hw
  have w3 := List.all_eq_true.1 hw s3.data.toList.length (by
    simp only [DataW.weights, Try.underlying40]
    refine DataW.weights_mem_each (j := 3) (t := 9) (d := y3.1) rfl rfl _ ?_
    rw [d3]; simp [DataW.weights])
  have z3 := of_decide_eq_true w3
  rw [← Lib.size_eq] at z3
  refine ⟨⟨i0, i1, i2, s3⟩, by rw [q0, q1, q2, q3]; rfl, Nat.le_trans z3 (by unfold reachBytes; decide)⟩
theorem bytesAct : Try.prog.bytesOf 40 = 40 := by kernel_rfl
abbrev Acs (w : World) (v : Value) (l : List Ac) : Prop := Elems 4 Ac.cells Ac.fit w v l
theorem open_acs {v : Value} {d : DataW H} {p : List MemPlace} (hv : v.cells = #[v]) (h : DataW.Trod enc Try.prog w base spare held 22 v d p) (hsz : (d.weights Try.prog 22).all (· ≤ reachBytes) = true) (hlt : ∀ x ∈ p, x.block < w.heap.size) :
    ∃ l : List Ac, Acs w v l ∧ l.length * 40 ≤ 140737488351232 := by
  haveI : Nonempty Ac := ⟨⟨0, 0, 0, .empty⟩⟩
  refine open_elems Ac.cells Ac.fit Try.underlying22 cellsAct (fun _ => rfl) (by decide) bytesAct ?_ hv h hsz hlt
  intro fuel cs x hx hw
  exact open_ac hx hw
end
end Go.Proofs.Ytbbhihkeljpikaa

namespace Go.Proofs.Ytbbhihkeljpikaa
open Go.RowKit
set_option linter.unusedSimpArgs false
set_option linter.unusedVariables false

variable {p b x y : Nat} {T : List ByteArray} {S : List (Int × ByteArray)} {q tm tc : Nat} {av : Value} {C : Cs} {w0 : World}
theorem note_again {α : Type} [DecidableEq α] (l : List α) (k : α) : note (note l k) k = note l k := note_old (note_mem l k)
theorem sgM_again (S : List (Int × ByteArray)) (who : Int) (d : Bd) : sgM (note S (who, byS d)) who d = sgM S who d := by
  unfold sgM
  rw [note_again]
set_option maxHeartbeats 2000000 in
set_option maxRecDepth 100000 in
theorem sent_calls (v : Value) (f : Nat) (s : ByteArray) (w : World) (h : SentTo w v (3 * f + 1) s) (hf : f ≤ 4) : Calls Try.prog 17 #[v, .int .i64 (f : Int), .string s] w fun e w' => e = .returned (.bool true) ∧ w' = w := by
  obtain ⟨g, rfl, cs, X, hc⟩ := h
  have HC : Hid _ := hc
  have hn : 3 * f + 1 ≤ 13 := by omega
  have e1 : IntKind.i64.wrap (3 * (f : Int)) = 3 * (f : Int) := wrapC (by omega) (by omega)
  have e2 : IntKind.i64.wrap (3 * (f : Int) + 1) = ((3 * f + 1 : Nat) : Int) := by rw [wrapC (by omega) (by omega)]; push_cast; rfl
  generalize 3 * f + 1 = n at *
  clear hc
  go_enter Try.func17, Try.ntmps17
  go_wp2
  go_loopw [7] (fun iv wr => ∃ k : Nat, k ≤ n ∧ iv = .int .i64 k ∧ wr = w) (fun iv _ => n - (intOf iv).toNat)
  case atStart => exact ⟨0, Nat.zero_le _, rfl, rfl⟩
  case round =>
    obtain ⟨k, hk, rfl, rfl⟩ := hrel
    by_cases hlt : k < n
    · have hd : decide ((k : Int) < n) = true := decide_eq_true (by omega)
      have c0 : wr.cell? ⟨g, k * 2, none⟩ = some (.int .i64 (k : Int)) := X.cell (HC.out k hlt).1
      have c1 : wr.cell? ⟨g, k * 2 + 1, none⟩ = some (.string s) := X.cell (HC.out k hlt).2
      go_wp2
      exact ⟨⟨k + 1, by omega, by norm_cast, trivial⟩, by simp [intOf]; omega⟩
    · have hd : decide ((k : Int) < n) = false := decide_eq_false (by omega)
      go_wp2
      go_ret
      exact ⟨rfl, rfl⟩
end Go.Proofs.Ytbbhihkeljpikaa
