/- A contract of the shelf, laid at this seat. -/
import Derived.Test.YtladgfngddgnlaaGreatDoorChecked
import Derived.Shelf.Strings.BuilderK
import Derived.Test.YtladgfngddgnlaaGreatDoorHy03
import Derived.Shelf.Strings.Builder1
import Derived.Lib.OthersKept
import Derived.Test.YtladgfngddgnlaaGreatDoorHy02
import Derived.Laws.StructEq
namespace Go.Proofs.YtladgfngddgnlaaGreatDoor
open Go.Shelf
def bstL_ren : Go.Shelf.Ren := ⟨fun | 169 => 41 | n => n, fun | 70 => 94 | 9 => 9 | 0 => 0 | 72 => 97 | 37 => 95 | 127 => 119 | 3 => 3 | 5 => 5 | n => n, fun | n => n⟩
theorem bstL : Go.Proofs.Lays.n169 Tryz.prog bstL_ren := {
  mixed := by kernel_rfl
  f169 := Tryz.func41.trans (congrArg some (by kernel_rfl))
  t0 := Tryz.underlying0
  a0 := Tryz.isAgg0
  z0 := Tryz.sizeOf0
  v0 := Tryz.zeroValue0
  t3 := Tryz.underlying3
  a3 := Tryz.isAgg3
  z3 := Tryz.sizeOf3
  v3 := Tryz.zeroValue3
  t9 := Tryz.underlying9
  a9 := Tryz.isAgg9
  z9 := Tryz.sizeOf9
  v9 := Tryz.zeroValue9
  t37 := Tryz.underlying95
  a37 := Tryz.isAgg95
  z37 := Tryz.sizeOf95
  v37 := Tryz.zeroValue95
  t70 := Tryz.underlying94
  a70 := Tryz.isAgg94
  z70 := Tryz.sizeOf94
  v70 := Tryz.zeroValue94
  t72 := Tryz.underlying97
  a72 := Tryz.isAgg97
  z72 := Tryz.sizeOf97
  v72 := Tryz.zeroValue97
  t127 := Tryz.underlying119
  a127 := Tryz.isAgg119
  z127 := Tryz.sizeOf119
  v127 := Tryz.zeroValue119 }
end Go.Proofs.YtladgfngddgnlaaGreatDoor

namespace Go.Proofs.YtladgfngddgnlaaGreatDoor
open Go.RowKit Go.Shelf
set_option linter.unusedSimpArgs false
set_option linter.unusedVariables false

theorem bst_extra : Builder.Extra Tryz.prog bstL_ren := {
  sizeBuilder := by kernel_rfl
  liesBuilder := by kernel_rfl
  t5 := Tryz.underlying5
  a5 := Tryz.isAgg5
  z5 := Tryz.sizeOf5
  v5 := Tryz.zeroValue5
  infoByte := by kernel_rfl
  cellsByte := by kernel_rfl
  sizeByte := by kernel_rfl
  neB5 := by decide }
abbrev Bdr (B b : Nat) (l : List UInt8) (w : World) : Prop := Lib.IsBuilder 97 5 B b (Lib.byteCells l) w
theorem bString_calls (B b : Nat) (l : List UInt8) (w : World) (h : Bdr B b l w) (hB : B ≤ w.heap.size) :
    Calls Tryz.prog 41 #[.pointer (some ⟨b, 0, none⟩)] w fun e w' => e = .returned (.string ⟨l.toArray⟩) ∧ Below B w w' :=
  Any.Builder_String_any bstL bst_extra B b l w h hB

theorem infoBdr : ∃ j, Tryz.prog.info? 97 = some j ∧ j.size = 2 := Option.map_eq_some_iff.1 (show (Tryz.prog.info? 97).map (·.size) = some 2 by kernel_rfl)
set_option maxHeartbeats 1000000 in
set_option maxRecDepth 100000 in
/-- A builder that was written to knows its own place. -/
theorem copyCheck_old (b : Nat) (v : Value) (w : World) (X : Blk w b #[.pointer (some ⟨b, 0, none⟩), v] 97) :
    Calls Tryz.prog 56 #[.pointer (some ⟨b, 0, none⟩)] w fun e w' => e = .returned (.tuple #[]) ∧ w' = w := by
  obtain ⟨j, hj, _⟩ := infoBdr
  have c0 : w.cell? ⟨b, 0, none⟩ = some (.pointer (some ⟨b, 0, none⟩)) := X.cell rfl
  have hq := Lib.run_neq_ptr_same (P := Tryz.prog) w ⟨b, 0, none⟩ Tryz.underlying94 hj
  go_enter Tryz.func56, Tryz.ntmps56
  go_wp2
  go_end0
  exact ⟨rfl, rfl⟩
set_option maxHeartbeats 1000000 in
set_option maxRecDepth 100000 in
/-- A new one learns it. -/
theorem copyCheck_new (b : Nat) (v : Value) (w : World) (X : Blk w b #[.pointer none, v] 97) :
    Calls Tryz.prog 56 #[.pointer (some ⟨b, 0, none⟩)] w fun e w' => e = .returned (.tuple #[]) ∧ w' = w.setCell ⟨b, 0, none⟩ (.pointer (some ⟨b, 0, none⟩)) := by
  obtain ⟨j, hj, hjs⟩ := infoBdr
  have hl : liesAt Tryz.prog Tryz.prog.depth 97 (2 / Tryz.prog.cellsOf 97) 0 97 1 = true := by kernel_rfl
  have hsh : w.shape? b = some (97, 2) := by have := X; unfold Blk at this; simp [World.shape?, this]
  have c0 : w.cell? ⟨b, 0, none⟩ = some (.pointer none) := X.cell rfl
  have f0 : w.frozen? ⟨b, 0, none⟩ = false := X.frozen
  have hj0 : ¬ j.size = 0 := by rw [hjs]; decide
  have e1 : (convert 94 129 (.pointer (some ⟨b, 0, none⟩))).run Tryz.prog w = .ok (.pointer (some ⟨b, 0, none⟩)) w := by
    simp [convert, run_underlying Tryz.underlying94, run_underlying Tryz.underlying129, Conv.unsafePointer, Conv.seenAt, viewAt, cellsIn, sizeOf, typeInfo, hj, hj0, hsh]
  have e2 : (convert 129 94 (.pointer (some ⟨b, 0, none⟩))).run Tryz.prog w = .ok (.pointer (some ⟨b, 0, none⟩)) w := by
    simp [convert, run_underlying Tryz.underlying129, run_underlying Tryz.underlying94, Conv.unsafePointer, Conv.seenAt, viewAt, variablesAt, sizeOf, typeInfo, hj, hsh, hl]
  have e3 : (callFunc 76 #[.pointer (some ⟨b, 0, none⟩)]).run Tryz.prog w = .ok (.value (.pointer (some ⟨b, 0, none⟩))) w := by
    rw [run_callFunc_extern Tryz.func76 (by kernel_rfl) (by kernel_rfl) (by kernel_rfl) (e := Extern.AbiNoEscape.same) (by kernel_rfl)]
    rfl
  go_enter Tryz.func56, Tryz.ntmps56
  go_wp2
  go_end0
  exact ⟨rfl, rfl⟩
theorem copyCheck_calls (B b : Nat) (l : List UInt8) (w : World) (h : Bdr B b l w) :
    Calls Tryz.prog 56 #[.pointer (some ⟨b, 0, none⟩)] w fun e w' => e = .returned (.tuple #[]) ∧ Lib.BuilderAt 97 5 B b (.pointer (some ⟨b, 0, none⟩)) (Lib.byteCells l) w' ∧ Below B w w' ∧ Lib.OthersKept 5 (some b) w w' := by
  rcases h with h | h
  · obtain ⟨hB, v, hb, ho, hne⟩ := id h
    refine (copyCheck_new b v w hb).mono ?_
    rintro e w' ⟨rfl, rfl⟩
    exact ⟨rfl, h.used _, (Below.refl B w).setCell (p := ⟨b, 0, none⟩) h.1 _, (Lib.OthersKept.refl _ _ w).setCell ⟨b, 0, none⟩ rfl _⟩
  · obtain ⟨hB, v, hb, ho, hne⟩ := id h
    refine (copyCheck_old b v w hb).mono ?_
    rintro e w' ⟨rfl, rfl⟩
    exact ⟨rfl, h, Below.refl B _, Lib.OthersKept.refl _ _ _⟩

theorem strCells_eq (s : ByteArray) : Lib.strCells s = Lib.byteCells s.data.toList := by
  unfold Lib.strCells Lib.byteCells; rfl
set_option maxHeartbeats 2000000 in
set_option maxRecDepth 100000 in
theorem writeString_calls (B b : Nat) (l : List UInt8) (s : ByteArray) (w : World) (h : Bdr B b l w) (hlen : l.length + s.size ≤ 140737488355328) (hB : B ≤ w.heap.size) :
    Calls Tryz.prog 40 #[.pointer (some ⟨b, 0, none⟩), .string s] w fun e w' => e = .returned (.tuple #[.int .i64 s.size, .nilIface]) ∧ Bdr B b (l ++ s.data.toList) w' ∧ Below B w w' ∧ Lib.OthersKept 5 (some b) w w' := by
  obtain ⟨i0, hi, hz0, hz1, hz2⟩ := info_parts infoByte
  have HC : Hid _ := copyCheck_calls B b l w h
  have hbl : (Lib.byteCells l).length = l.length := by simp [Lib.byteCells]
  go_enter Tryz.func40, Tryz.ntmps40
  go_wp2_with fail
  refine Calls.mono HC.out ?_
  rintro e w1 ⟨rfl, h1, hb1, k1⟩
  obtain ⟨hBb, v, hbk, hown, hne⟩ := h1
  rw [hbl] at hown
  have X1 : Blk w1 b #[.pointer (some ⟨b, 0, none⟩), v] 97 := hbk
  have c1 : w1.cell? ⟨b, 1, none⟩ = some v := X1.cell rfl
  have hz := hb1.size
  go_wp2_with (at_builtin; refine Lib.wpList_append_own_string _ rfl _ _ 95 9 rfl B 5 i0 Tryz.underlying95 Tryz.underlying9 hi hz0 hz1 hz2 _ _ _ rfl hown s rfl ?c3 ?c4 ?c5 ?_)
  case c3 => unfold maxLen; omega
  case c4 => omega
  case c5 => omega
  intro v' w2 hown' hgrow _
  have X2 : Blk w2 b #[.pointer (some ⟨b, 0, none⟩), v] 97 := (hgrow.block b X1.lt (fun e => hne e.symm)).trans X1
  have f1 : w2.frozen? ⟨b, 1, none⟩ = false := X2.frozen
  have d1 : w2.cell? ⟨b, 1, none⟩ = some v := X2.cell rfl
  obtain ⟨ao, n', cap, rfl⟩ : ∃ ao n' cap, v' = .slice ao n' cap := by
    rcases hown'.2 with ⟨hv, _⟩ | ⟨g, cap, cur, hv, _⟩
    · exact ⟨_, _, _, hv⟩
    · exact ⟨_, _, _, hv⟩
  go_wp2
  go_ret2
  refine ⟨rfl, Or.inr ?_, ?_, ?_⟩
  · rw [byteCells_append, ← strCells_eq]
    exact Lib.BuilderAt.put (T := 97) (e := 5) hBb X2 (bs' := Lib.byteCells l ++ Lib.strCells s) (by simpa [Lib.strCells_length, hbl] using hown') (by decide)
  · exact (hb1.grown hgrow (by omega) (fun k hk => (hown.lt k hk).1)).setCell (p := ⟨b, 1, none⟩) hBb _
  · refine (k1.grown hgrow ?_).setCell ⟨b, 1, none⟩ rfl _
    intro g hg
    rcases hown.2 with ⟨rfl, _⟩ | ⟨g', cap, cur, rfl, _, hgg, _⟩
    · simp [Value.ownBlock] at hg
    · simp [Value.ownBlock] at hg
      subst hg
      exact ⟨_, _, hgg⟩
end Go.Proofs.YtladgfngddgnlaaGreatDoor

namespace Go.Proofs.YtladgfngddgnlaaGreatDoor
open Go.RowKit Go.Shelf
set_option linter.unusedSimpArgs false
set_option linter.unusedVariables false

/-- Numbers, one behind the other. -/
def encs (m : List Int) : List UInt8 := m.flatMap fun n => enc n.toNat
theorem encs_take (m : List Int) (k : Nat) (h : k < m.length) : encs (m.take (k + 1)) = encs (m.take k) ++ enc m[k].toNat := by
  unfold encs
  rw [List.take_succ_eq_append_getElem h, List.flatMap_append]; simp
theorem encs_len (m : List Int) : (encs m).length ≤ 10 * m.length := by
  unfold encs
  induction m with
  | nil => simp
  | cons n m ih => rw [List.flatMap_cons, List.length_append, List.length_cons]; have := enc_le n.toNat; omega
theorem own_belowL {w w' : World} {base : Nat} {e : TypeId} {sz : Nat} {v : Value} {n : Nat} {xs : List Value} (ho : w.ownsRow base e sz v n xs) (hb : Below w.heap.size w w') : w'.ownsRow base e sz v n xs :=
  ho.kept (row := none) ⟨hb.os, hb.tape, hb.output, hb.size, fun k hk _ => hb.block k hk⟩ (by cases v.ownBlock <;> simp)
/-- A row's cell. -/
theorem Bdr.below {B b : Nat} {l : List UInt8} {w w' : World} (h : Bdr B b l w) (hb : Below w.heap.size w w') : Bdr B b l w' := by
  have key : ∀ p, Lib.BuilderAt 97 5 B b p (Lib.byteCells l) w → Lib.BuilderAt 97 5 B b p (Lib.byteCells l) w' := by
    intro p hp
    have hlt := hp.lt
    obtain ⟨h1, v, h2, h3, h4⟩ := hp
    exact ⟨h1, v, (hb.block b hlt).trans h2, own_belowL h3 hb, h4⟩
  rcases h with h | h
  · exact Or.inl (key _ h)
  · exact Or.inr (key _ h)
theorem Bdr.lt {B b : Nat} {l : List UInt8} {w : World} (h : Bdr B b l w) : B ≤ b ∧ b < w.heap.size := by
  rcases h with h | h
  · exact ⟨h.1, h.lt⟩
  · exact ⟨h.1, h.lt⟩
theorem kept_below {b : Nat} {w w' : World} (hb : Below w.heap.size w w') : Lib.OthersKept 5 (some b) w w' := fun k o hk _ _ => by
  have hlt : k < w.heap.size := (Array.getElem?_eq_some_iff.1 hk).1
  exact (hb.block k hlt).trans hk
theorem Blk.kept {b q : Nat} {w w' : World} {cs : Array Value} {t : TypeId} (X : Blk w q cs t) (h : Lib.OthersKept 5 (some b) w w') (hq : q ≠ b) (ht : t ≠ 5) : Blk w' q cs t :=
  h q _ X (fun e => hq (Option.some.inj e)) (fun c fz e => by injection e with _ e2; exact ht e2)
end Go.Proofs.YtladgfngddgnlaaGreatDoor

namespace Go.Proofs.YtladgfngddgnlaaGreatDoor
open Go.RowKit
set_option linter.unusedVariables false
set_option linter.unusedSimpArgs false

structure Rc where
  key : ByteArray
  dat : ByteArray
def Rc.val (m : Rc) : Value := .agg #[.string m.key, .string m.dat]
def rcCells (l : List Rc) : List Value := l.flatMap fun m => [.string m.key, .string m.dat]
theorem rcCells_snoc (l : List Rc) (m : Rc) : rcCells (l ++ [m]) = rcCells l ++ [.string m.key, .string m.dat] := by
  unfold rcCells; rw [List.flatMap_append]; rfl
/-- A slice of records: its cells. -/
def Rcs (w : World) (v : Value) (l : List Rc) : Prop :=
  ((∃ p c, v = .slice p 0 c) ∧ l = []) ∨
  ∃ b off cap, v = .slice (some ⟨b, off, none⟩) l.length cap ∧ ∀ i (h : i < l.length),
    w.cell? ⟨b, off + i * 2, none⟩ = some (.string l[i].key) ∧ w.cell? ⟨b, off + i * 2 + 1, none⟩ = some (.string l[i].dat) ∧ l[i].key.size ≤ maxLen ∧ l[i].dat.size ≤ maxLen

theorem Rcs.below {w w' : World} {v : Value} {l : List Rc} (h : Rcs w v l) (hb : Below w.heap.size w w') : Rcs w' v l := by
  rcases h with h | ⟨b, off, cap, hv, hc⟩
  · exact Or.inl h
  · refine Or.inr ⟨b, off, cap, hv, fun i hi => ?_⟩
    obtain ⟨h1, h2, h4⟩ := hc i hi
    have hlt := World.block_lt_of_cell? w _ h1
    exact ⟨(hb.cell (p := ⟨b, off + i * 2, none⟩) hlt).trans h1, (hb.cell (p := ⟨b, off + i * 2 + 1, none⟩) hlt).trans h2, h4⟩

theorem Rcs.len {w : World} {v : Value} {l : List Rc} (h : Rcs w v l) : ∃ p c, v = .slice p l.length c := by
  rcases h with ⟨⟨p, c, rfl⟩, rfl⟩ | ⟨b, off, cap, rfl, _⟩
  · exact ⟨p, c, rfl⟩
  · exact ⟨_, _, rfl⟩

theorem rcCells_at : ∀ (l : List Rc) (i : Nat) (h : i < l.length), (rcCells l)[i * 2]? = some (.string l[i].key) ∧ (rcCells l)[i * 2 + 1]? = some (.string l[i].dat) := by
  intro l
  induction l with
  | nil => intro i h; simp at h
  | cons m l ih =>
    intro i h
    have e : rcCells (m :: l) = .string m.key :: .string m.dat :: rcCells l := by simp [rcCells]
    rw [e]
    cases i with
    | zero => exact ⟨rfl, rfl⟩
    | succ i =>
      have h' : i < l.length := by simpa using h
      have e1 : (i + 1) * 2 = i * 2 + 2 := by omega
      rw [e1]
      simpa using ih i h'

theorem rcs_of_own {w : World} {base : Nat} {v : Value} {l : List Rc} (h : w.ownsRow base 38 2 v l.length (rcCells l)) (hl : ∀ m ∈ l, m.key.size ≤ maxLen ∧ m.dat.size ≤ maxLen) : Rcs w v l := by
  obtain ⟨h1, h2⟩ := id h
  rcases h2 with ⟨rfl, h3⟩ | ⟨g, cap, cur, rfl, h3⟩
  · exact Or.inl ⟨⟨_, _, rfl⟩, List.eq_nil_of_length_eq_zero h3⟩
  · refine Or.inr ⟨g, 0, cap, rfl, fun i hi => ?_⟩
    obtain ⟨c0, c1⟩ := rcCells_at l i hi
    have d0 := h.cells rfl _ _ c0
    have d1 := h.cells rfl _ _ c1
    obtain ⟨z1, z2⟩ := hl l[i] (List.getElem_mem hi)
    rw [Addr.add_lit] at d0 d1
    exact ⟨d0, d1, z1, z2⟩

def rcEq (m n : Rc) : Bool := m.key.toList == n.key.toList && m.dat.toList == n.dat.toList
def sameRc : List Rc → List Rc → Bool
  | [], [] => true
  | m :: l, n :: r => rcEq m n && sameRc l r
  | _, _ => false

theorem rcEq_self (m : Rc) : rcEq m m = true := by simp [rcEq]
theorem sameRc_self : ∀ l, sameRc l l = true
  | [] => rfl
  | m :: l => by simp [sameRc, rcEq_self, sameRc_self l]
theorem sameRc_len : ∀ {l r : List Rc}, l.length ≠ r.length → sameRc l r = false
  | [], [], h => absurd rfl h
  | [], _ :: _, _ => rfl
  | _ :: _, [], _ => rfl
  | m :: l, n :: r, h => by
    have h' : l.length ≠ r.length := fun e => h (by simp [e])
    simp [sameRc, sameRc_len h']

theorem cellsStrS : Tryz.prog.cellsOf 9 = 1 := by kernel_rfl

theorem run_neq_record (m n : Rc) (w : World) : (binOp .neq 38 m.val n.val).run Tryz.prog w = .ok (.bool (!rcEq m n)) w := by
  unfold Rc.val
  rw [run_neq_struct, run_equalIn_agg]
  · simp [Op.eqFields, go_sem, Program.fieldsOf, Tryz.underlying38, part, cellsStrS, rcEq]
    by_cases h2 : m.key.toList = n.key.toList <;> by_cases h3 : m.dat.toList = n.dat.toList <;> simp [h2, h3]
  · kernel_rfl
  · kernel_rfl

theorem sameRecords_ref (v u : Value) (l r : List Rc) (w : World) (h : Rcs w v l) (h' : Rcs w u r) (hl : l.length < 9223372036854775807) (hr : r.length < 9223372036854775807) :
    Calls Tryz.prog 12 #[v, u] w fun e w' => e = .returned (.bool (sameRc l r)) ∧ Below w.heap.size w w' := by
  obtain ⟨p, c, rfl⟩ := h.len
  obtain ⟨p', c', rfl⟩ := h'.len
  by_cases hlen : l.length = r.length
  · have hne : ((l.length : Int) != r.length) = false := by simp [hlen]
    rcases h with ⟨_, rfl⟩ | ⟨b, off, cap, hv, hc⟩
    · have : r = [] := List.eq_nil_of_length_eq_zero hlen.symm
      subst this
      go_enter Tryz.func12, Tryz.ntmps12
      go_wp2
      refine wp_loop_rounds 1 ?_
      rw [rounds_succ]
      go_wp2
      go_ret
      exact ⟨rfl, Below.refl _ _⟩
    · simp only [Value.slice.injEq] at hv
      obtain ⟨rfl, _, rfl⟩ := hv
      rcases h' with ⟨_, rfl⟩ | ⟨b', off', cap', hv', hc'⟩
      · have : l = [] := List.eq_nil_of_length_eq_zero hlen
        subst this
        go_enter Tryz.func12, Tryz.ntmps12
        go_wp2
        refine wp_loop_rounds 1 ?_
        rw [rounds_succ]
        go_wp2
        go_ret
        exact ⟨rfl, Below.refl _ _⟩
      · simp only [Value.slice.injEq] at hv'
        obtain ⟨rfl, _, rfl⟩ := hv'
        have HC : Hid _ := hc
        have HC' : Hid _ := hc'
        have HL : Hid (l.length = r.length) := hlen
        clear hc hc' hlen
        go_enter Tryz.func12, Tryz.ntmps12
        go_wp2
        go_loopw [5] (fun i wr => ∃ k : Nat, k ≤ l.length ∧ i = .int .i64 k ∧ Hid (sameRc l r = sameRc (l.drop k) (r.drop k)) ∧ Below w.heap.size w wr) (fun i _ => l.length - (intOf i).toNat)
        case atStart => exact ⟨0, Nat.zero_le _, rfl, rfl, Below.refl _ _⟩
        case round =>
          obtain ⟨k, hk, rfl, hR, hb⟩ := hrel
          by_cases hlt : k < l.length
          · have hlt' : k < r.length := by rw [← HL.out]; exact hlt
            have hd : decide ((k : Int) < l.length) = true := by simp only [decide_eq_true_eq]; omega
            obtain ⟨c1, c2, z1, z2⟩ := HC.out k hlt
            have hbl := World.block_lt_of_cell? w _ c1
            have d1 := (hb.cell (p := ⟨b, off + k * 2, none⟩) hbl).trans c1
            have d2 := (hb.cell (p := ⟨b, off + k * 2 + 1, none⟩) hbl).trans c2
            obtain ⟨g1, g2, y1, y2⟩ := HC'.out k hlt'
            have hbl' := World.block_lt_of_cell? w _ g1
            have e1 := (hb.cell (p := ⟨b', off' + k * 2, none⟩) hbl').trans g1
            have e2 := (hb.cell (p := ⟨b', off' + k * 2 + 1, none⟩) hbl').trans g2
            have hdr : l.drop k = l[k] :: l.drop (k + 1) := List.drop_eq_getElem_cons hlt
            have hdr' : r.drop k = r[k] :: r.drop (k + 1) := List.drop_eq_getElem_cons hlt'
            have hst : Hid (sameRc l r = (rcEq l[k] r[k] && sameRc (l.drop (k + 1)) (r.drop (k + 1)))) := by
              show _ = _
              rw [hR.out, hdr, hdr']; rfl
            have hne2 := fun wx => run_neq_record l[k] r[k] wx
            unfold Rc.val at hne2
            clear c1 c2 g1 g2 hdr hdr' hR
            cases hq : rcEq l[k] r[k] with
            | true =>
              have hst2 : Hid (sameRc l r = sameRc (l.drop (k + 1)) (r.drop (k + 1))) := by show _ = _; rw [hst.out, hq]; simp
              rw [hq] at hne2
              clear hq hst
              go_wp2
              go_region
              go_wp2
              go_roundw
              case rel => exact ⟨k + 1, by omega, by go_num, hst2, hb.drew⟩
              case measure => simp [intOf]; omega
            | false =>
              have hst2 : Hid (sameRc l r = false) := by show _ = _; rw [hst.out, hq]; simp
              rw [hq] at hne2
              clear hq hst
              go_wp2
              go_region
              go_wp2
              go_ret
              exact ⟨by rw [hst2.out]; rfl, hb.drew⟩
          · have hd : decide ((k : Int) < l.length) = false := by simp only [decide_eq_false_iff_not]; omega
            have hfin : Hid (sameRc l r = true) := by
              show _ = _
              rw [hR.out, List.drop_of_length_le (by omega), List.drop_of_length_le (by rw [← HL.out]; omega)]; rfl
            go_wp2
            go_ret
            exact ⟨by rw [hfin.out]; rfl, hb⟩
  · have hne : ((l.length : Int) != r.length) = true := by
      rw [bne_iff_ne]; omega
    have hfin : Hid (sameRc l r = false) := sameRc_len hlen
    clear hlen
    go_enter Tryz.func12, Tryz.ntmps12
    go_wp2
    go_ret
    exact ⟨by rw [hfin.out]; rfl, Below.refl _ _⟩
end Go.Proofs.YtladgfngddgnlaaGreatDoor
