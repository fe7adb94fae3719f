/- Votes that come in as a slice of structs, and the messages that are made of them. -/
import Derived.Test.YtpncomnfodiliabAuY
import Derived.Test.YtpncomnfodiliabRnd
namespace Go.Proofs.Ytpncomnfodiliab
open Go.ChangeShapes Go.WideShapes Go.ChangeAt Go.RowKit
set_option linter.unusedSimpArgs false
set_option linter.unusedVariables false

/-- A vote. -/
structure Vt where
  who : Int
  kind : Int
  view : Int
  seq : Int
  spoilt : Int
  dg : ByteArray
def Vt.cells (v : Vt) : List Value := [.int .i64 v.who, .int .i64 v.kind, .int .i64 v.view, .int .i64 v.seq, .int .i64 v.spoilt, .string v.dg]
def Vt.fit (v : Vt) : Prop := v.dg.size ≤ 140737488351232
abbrev Vts (w : World) (v : Value) (l : List Vt) : Prop := Elems 6 Vt.cells Vt.fit w v l
theorem cellsVote : Try.prog.cellsOf 41 = 6 := by kernel_rfl
theorem bytesVote : Try.prog.bytesOf 41 = 56 := by kernel_rfl
theorem list6 {α : Type} {l : List α} (h : l.length = 6) : ∃ a b c d e f, l = [a, b, c, d, e, f] := by
  match l, h with
  | [a, b, c, d, e, f], _ => exact ⟨a, b, c, d, e, f, rfl⟩
section
variable {H : Type} {enc : TypeId × Value → H} {w : World} {base : Nat} {spare : Nat → Bool} {held : Bool}
theorem open_vts {v : Value} {d : DataW H} {p : List MemPlace} (hv : v.cells = #[v]) (h : DataW.Trod enc Try.prog w base spare held 22 v d p) (hsz : (d.weights Try.prog 22).all (· ≤ reachBytes) = true) (hlt : ∀ x ∈ p, x.block < w.heap.size) :
    ∃ l : List Vt, Vts w v l ∧ l.length * 56 ≤ 140737488351232 := by
  haveI : Nonempty Vt := ⟨⟨0, 0, 0, 0, 0, .empty⟩⟩
  refine open_elems Vt.cells Vt.fit Try.underlying22 cellsVote (fun _ => rfl) (by decide) bytesVote ?_ hv h hsz hlt
  intro fuel cs x hx hw
  obtain ⟨xs, n, _, hxe, hl, hlen, hfl⟩ := DataW.trod_struct Try.underlying41 hx
  rw [cellsVote] at hl
  obtain ⟨k0, k1, k2, k3, k4, k5, rfl⟩ := list6 hl
  obtain ⟨y0, y1, y2, y3, y4, y5, hxs⟩ := list6 (l := xs) (by simpa using hlen)
  subst hxs
  have g0 := hfl 0 _ rfl
  have g1 := hfl 1 _ rfl
  have g2 := hfl 2 _ rfl
  have g3 := hfl 3 _ rfl
  have g4 := hfl 4 _ rfl
  have g5 := hfl 5 _ rfl
  simp only [cells_Int, cells_Str, List.drop_zero, List.drop_succ_cons, List.take_succ_cons, List.take_zero, List.getElem?_cons_zero, List.getElem?_cons_succ] at g0 g1 g2 g3 g4 g5
  obtain ⟨i0, e0, _, _⟩ := DataW.trod_int Try.underlying3 g0
  obtain ⟨i1, e1, _, _⟩ := DataW.trod_int Try.underlying3 g1
  obtain ⟨i2, e2, _, _⟩ := DataW.trod_int Try.underlying3 g2
  obtain ⟨i3, e3, _, _⟩ := DataW.trod_int Try.underlying3 g3
  obtain ⟨i4, e4, _, _⟩ := DataW.trod_int Try.underlying3 g4
  obtain ⟨s5, e5, d5, _⟩ := DataW.trod_string Try.underlying9 g5
  have q0 : k0 = .int .i64 i0 := by simpa [cells_Int] using e0
  have q1 : k1 = .int .i64 i1 := by simpa [cells_Int] using e1
  have q2 : k2 = .int .i64 i2 := by simpa [cells_Int] using e2
  have q3 : k3 = .int .i64 i3 := by simpa [cells_Int] using e3
  have q4 : k4 = .int .i64 i4 := by simpa [cells_Int] using e4
  have q5 : k5 = .string s5 := by simpa [cells_Str] using e5
  have hd : x.1 = .agg [y0.1, y1.1, y2.1, y3.1, y4.1, y5.1] := by simpa using congrArg Prod.fst hxe
  rw [hd] at hw
  have w5 := List.all_eq_true.1 hw s5.data.toList.length (by
    simp only [DataW.weights, Try.underlying41]
    refine DataW.weights_mem_each (j := 5) (t := 9) (d := y5.1) rfl rfl _ ?_
    rw [d5]; simp [DataW.weights])
  have z5 := of_decide_eq_true w5
  rw [← Lib.size_eq] at z5
  refine ⟨⟨i0, i1, i2, i3, i4, s5⟩, by rw [q0, q1, q2, q3, q4, q5]; rfl, Nat.le_trans z5 (by unfold reachBytes; decide)⟩
end

/-- The body of a vote; the message that is made of it, and whether it is good. -/
def Vt.bd (v : Vt) : Bd := ⟨3 + rnd v.kind 2, v.view, v.seq, 0, 0, v.dg, ⟨#[]⟩, []⟩
def spoil (v : Vt) (m : Sg) : Sg := if v.spoilt = 1 then ⟨m.frm, m.body, m.sig ++ ⟨#[120]⟩⟩ else if v.spoilt = 2 then ⟨m.frm + 1, m.body, m.sig⟩ else m
def vMsg (S : List (Int × ByteArray)) (v : Vt) : Sg := spoil v (sealR S v.who v.bd).1
def vOk (v : Vt) : Bool := decide (byE v.bd = 0) && isSg v.who && !decide (v.spoilt = 1) && !decide (v.spoilt = 2)
/-- What is signed behind some votes. -/
def vSt (l : List Vt) : List (Int × ByteArray) := l.foldl (fun S v => sealS S v.who v.bd) []
def vMs : List Vt → List (Int × ByteArray) → List Sg
  | [], _ => []
  | v :: l, S => vMsg S v :: vMs l (sealS S v.who v.bd)
theorem vMs_snoc (l : List Vt) (v : Vt) (S : List (Int × ByteArray)) : vMs (l ++ [v]) S = vMs l S ++ [vMsg (l.foldl (fun S v => sealS S v.who v.bd) S) v] := by
  induction l generalizing S with
  | nil => rfl
  | cons a l ih => simp [vMs, ih]
theorem vSt_snoc (l : List Vt) (v : Vt) : vSt (l ++ [v]) = sealS (vSt l) v.who v.bd := by simp [vSt]
theorem vMs_len (l : List Vt) (S : List (Int × ByteArray)) : (vMs l S).length = l.length := by
  induction l generalizing S with
  | nil => rfl
  | cons a l ih => simp [vMs, ih]
theorem sealS_len (S : List (Int × ByteArray)) (w : Int) (d : Bd) : (sealS S w d).length ≤ S.length + 1 := by
  unfold sealS; split
  · exact signS_len _ _ _
  · omega
theorem vSt_len (l : List Vt) : (vSt l).length ≤ l.length := by
  have : ∀ (l : List Vt) S, (l.foldl (fun S v => sealS S v.who v.bd) S).length ≤ S.length + l.length := by
    intro l
    induction l with
    | nil => intro S; simp
    | cons a l ih =>
      intro S
      have h1 := ih (sealS S a.who a.bd)
      have h2 := sealS_len S a.who a.bd
      simp only [List.foldl_cons, List.length_cons]
      omega
  have := this l []
  simpa [vSt] using this
theorem sealR_frm (S : List (Int × ByteArray)) (w : Int) (d : Bd) : 0 ≤ (sealR S w d).1.frm ∧ (sealR S w d).1.frm ≤ 255 := by
  unfold sealR
  split
  · split
    · rename_i h; unfold isSg at h; simpa using h
    · simp [zeroSg]
  · simp [zeroSg]
theorem sealR_sig (S : List (Int × ByteArray)) (w : Int) (d : Bd) : (sealR S w d).1.sig.size ≤ 9 := by
  unfold sealR
  split
  · split
    · exact Nat.le_refl _
    · exact (by decide : zeroSg.sig.size ≤ 9)
  · exact (by decide : zeroSg.sig.size ≤ 9)
theorem sealR_e (S : List (Int × ByteArray)) (w : Int) (d : Bd) : ((sealR S w d).2 == 0) = (decide (byE d = 0) && isSg w) := by
  unfold sealR
  by_cases h : byE d = 0
  · rw [if_pos h]
    cases isSg w
    · simp
    · simp [h]
  · rw [if_neg h]; simp [h]
end Go.Proofs.Ytpncomnfodiliab
