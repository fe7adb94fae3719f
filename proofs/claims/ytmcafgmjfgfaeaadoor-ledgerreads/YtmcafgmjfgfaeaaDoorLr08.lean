/- A text that is built: strings.Builder, as far as the ledger writes one. -/
import Derived.Test.YtmcafgmjfgfaeaaDoorLr07
import Derived.Shelf.Strings.Builder1
import Derived.Lib.OthersKept
namespace Go.Proofs.YtmcafgmjfgfaeaaDoor
open Go.RowKit Go.Shelf
set_option linter.unusedSimpArgs false
set_option linter.unusedVariables false

theorem bst_extra : Builder.Extra Tryd.prog bstL_ren := {
  sizeBuilder := by kernel_rfl
  liesBuilder := by kernel_rfl
  t5 := Tryd.underlying5
  a5 := Tryd.isAgg5
  z5 := Tryd.sizeOf5
  v5 := Tryd.zeroValue5
  infoByte := by kernel_rfl
  cellsByte := by kernel_rfl
  sizeByte := by kernel_rfl
  neB5 := by decide }
abbrev Bdr (B b : Nat) (l : List UInt8) (w : World) : Prop := Lib.IsBuilder 94 5 B b (Lib.byteCells l) w
theorem bString_calls (B b : Nat) (l : List UInt8) (w : World) (h : Bdr B b l w) (hB : B ≤ w.heap.size) :
    Calls Tryd.prog 62 #[.pointer (some ⟨b, 0, none⟩)] w fun e w' => e = .returned (.string ⟨l.toArray⟩) ∧ Below B w w' :=
  Any.Builder_String_any bstL bst_extra B b l w h hB

theorem infoBdr : ∃ j, Tryd.prog.info? 94 = some j ∧ j.size = 2 := Option.map_eq_some_iff.1 (show (Tryd.prog.info? 94).map (·.size) = some 2 by kernel_rfl)
set_option maxHeartbeats 1000000 in
set_option maxRecDepth 100000 in
/-- A builder that was written to knows its own place. -/
theorem copyCheck_old (b : Nat) (v : Value) (w : World) (X : Blk w b #[.pointer (some ⟨b, 0, none⟩), v] 94) :
    Calls Tryd.prog 72 #[.pointer (some ⟨b, 0, none⟩)] w fun e w' => e = .returned (.tuple #[]) ∧ w' = w := by
  obtain ⟨j, hj, _⟩ := infoBdr
  have c0 : w.cell? ⟨b, 0, none⟩ = some (.pointer (some ⟨b, 0, none⟩)) := X.cell rfl
  have hq := Lib.run_neq_ptr_same (P := Tryd.prog) w ⟨b, 0, none⟩ Tryd.underlying91 hj
  go_enter Tryd.func72, Tryd.ntmps72
  go_wp2
  go_end0
  exact ⟨rfl, rfl⟩
set_option maxHeartbeats 1000000 in
set_option maxRecDepth 100000 in
/-- A new one learns it. -/
theorem copyCheck_new (b : Nat) (v : Value) (w : World) (X : Blk w b #[.pointer none, v] 94) :
    Calls Tryd.prog 72 #[.pointer (some ⟨b, 0, none⟩)] w fun e w' => e = .returned (.tuple #[]) ∧ w' = w.setCell ⟨b, 0, none⟩ (.pointer (some ⟨b, 0, none⟩)) := by
  obtain ⟨j, hj, hjs⟩ := infoBdr
  have hl : liesAt Tryd.prog Tryd.prog.depth 94 (2 / Tryd.prog.cellsOf 94) 0 94 1 = true := by kernel_rfl
  have hsh : w.shape? b = some (94, 2) := by have := X; unfold Blk at this; simp [World.shape?, this]
  have c0 : w.cell? ⟨b, 0, none⟩ = some (.pointer none) := X.cell rfl
  have f0 : w.frozen? ⟨b, 0, none⟩ = false := X.frozen
  have hj0 : ¬ j.size = 0 := by rw [hjs]; decide
  have e1 : (convert 91 121 (.pointer (some ⟨b, 0, none⟩))).run Tryd.prog w = .ok (.pointer (some ⟨b, 0, none⟩)) w := by
    simp [convert, run_underlying Tryd.underlying91, run_underlying Tryd.underlying121, Conv.unsafePointer, Conv.seenAt, viewAt, cellsIn, sizeOf, typeInfo, hj, hj0, hsh]
  have e2 : (convert 121 91 (.pointer (some ⟨b, 0, none⟩))).run Tryd.prog w = .ok (.pointer (some ⟨b, 0, none⟩)) w := by
    simp [convert, run_underlying Tryd.underlying121, run_underlying Tryd.underlying91, Conv.unsafePointer, Conv.seenAt, viewAt, variablesAt, sizeOf, typeInfo, hj, hsh, hl]
  have e3 : (callFunc 82 #[.pointer (some ⟨b, 0, none⟩)]).run Tryd.prog w = .ok (.value (.pointer (some ⟨b, 0, none⟩))) w := by
    rw [run_callFunc_extern Tryd.func82 (by kernel_rfl) (by kernel_rfl) (by kernel_rfl) (e := Extern.AbiNoEscape.same) (by kernel_rfl)]
    rfl
  go_enter Tryd.func72, Tryd.ntmps72
  go_wp2
  go_end0
  exact ⟨rfl, rfl⟩
theorem copyCheck_calls (B b : Nat) (l : List UInt8) (w : World) (h : Bdr B b l w) :
    Calls Tryd.prog 72 #[.pointer (some ⟨b, 0, none⟩)] w fun e w' => e = .returned (.tuple #[]) ∧ Lib.BuilderAt 94 5 B b (.pointer (some ⟨b, 0, none⟩)) (Lib.byteCells l) w' ∧ Below B w w' ∧ Lib.OthersKept 5 (some b) w w' := by
  rcases h with h | h
  · obtain ⟨hB, v, hb, ho, hne⟩ := id h
    refine (copyCheck_new b v w hb).mono ?_
    rintro e w' ⟨rfl, rfl⟩
    exact ⟨rfl, h.used _, (Below.refl B w).setCell (p := ⟨b, 0, none⟩) h.1 _, (Lib.OthersKept.refl _ _ w).setCell ⟨b, 0, none⟩ rfl _⟩
  · obtain ⟨hB, v, hb, ho, hne⟩ := id h
    refine (copyCheck_old b v w hb).mono ?_
    rintro e w' ⟨rfl, rfl⟩
    exact ⟨rfl, h, Below.refl B _, Lib.OthersKept.refl _ _ _⟩

theorem strCells_eq (s : ByteArray) : Lib.strCells s = Lib.byteCells s.data.toList := by
  unfold Lib.strCells Lib.byteCells; rfl
set_option maxHeartbeats 2000000 in
set_option maxRecDepth 100000 in
theorem writeString_calls (B b : Nat) (l : List UInt8) (s : ByteArray) (w : World) (h : Bdr B b l w) (hlen : l.length + s.size ≤ 140737488355328) (hB : B ≤ w.heap.size) :
    Calls Tryd.prog 60 #[.pointer (some ⟨b, 0, none⟩), .string s] w fun e w' => e = .returned (.tuple #[.int .i64 s.size, .nilIface]) ∧ Bdr B b (l ++ s.data.toList) w' ∧ Below B w w' ∧ Lib.OthersKept 5 (some b) w w' := by
  obtain ⟨i0, hi, hz0, hz1, hz2⟩ := info_parts infoByte
  have HC : Hid _ := copyCheck_calls B b l w h
  have hbl : (Lib.byteCells l).length = l.length := by simp [Lib.byteCells]
  go_enter Tryd.func60, Tryd.ntmps60
  go_wp2_with fail
  refine Calls.mono HC.out ?_
  rintro e w1 ⟨rfl, h1, hb1, k1⟩
  obtain ⟨hBb, v, hbk, hown, hne⟩ := h1
  rw [hbl] at hown
  have X1 : Blk w1 b #[.pointer (some ⟨b, 0, none⟩), v] 94 := hbk
  have c1 : w1.cell? ⟨b, 1, none⟩ = some v := X1.cell rfl
  have hz := hb1.size
  go_wp2_with (at_builtin; refine Lib.wpList_append_own_string _ rfl _ _ 92 9 rfl B 5 i0 Tryd.underlying92 Tryd.underlying9 hi hz0 hz1 hz2 _ _ _ rfl hown s rfl ?c3 ?c4 ?c5 ?_)
  case c3 => unfold maxLen; omega
  case c4 => omega
  case c5 => omega
  intro v' w2 hown' hgrow _
  have X2 : Blk w2 b #[.pointer (some ⟨b, 0, none⟩), v] 94 := (hgrow.block b X1.lt (fun e => hne e.symm)).trans X1
  have f1 : w2.frozen? ⟨b, 1, none⟩ = false := X2.frozen
  have d1 : w2.cell? ⟨b, 1, none⟩ = some v := X2.cell rfl
  obtain ⟨ao, n', cap, rfl⟩ : ∃ ao n' cap, v' = .slice ao n' cap := by
    rcases hown'.2 with ⟨hv, _⟩ | ⟨g, cap, cur, hv, _⟩
    · exact ⟨_, _, _, hv⟩
    · exact ⟨_, _, _, hv⟩
  go_wp2
  go_ret2
  refine ⟨rfl, Or.inr ?_, ?_, ?_⟩
  · rw [byteCells_append, ← strCells_eq]
    exact Lib.BuilderAt.put (T := 94) (e := 5) hBb X2 (bs' := Lib.byteCells l ++ Lib.strCells s) (by simpa [Lib.strCells_length, hbl] using hown') (by decide)
  · exact (hb1.grown hgrow (by omega) (fun k hk => (hown.lt k hk).1)).setCell (p := ⟨b, 1, none⟩) hBb _
  · refine (k1.grown hgrow ?_).setCell ⟨b, 1, none⟩ rfl _
    intro g hg
    rcases hown.2 with ⟨rfl, _⟩ | ⟨g', cap, cur, rfl, _, hgg, _⟩
    · simp [Value.ownBlock] at hg
    · simp [Value.ownBlock] at hg
      subst hg
      exact ⟨_, _, hgg⟩
end Go.Proofs.YtmcafgmjfgfaeaaDoor

namespace Go.Proofs.YtmcafgmjfgfaeaaDoor
open Go.RowKit Go.Shelf
set_option linter.unusedSimpArgs false
set_option linter.unusedVariables false

/-- Numbers, one behind the other. -/
def encs (m : List Int) : List UInt8 := m.flatMap fun n => enc n.toNat
theorem encs_take (m : List Int) (k : Nat) (h : k < m.length) : encs (m.take (k + 1)) = encs (m.take k) ++ enc m[k].toNat := by
  unfold encs
  rw [List.take_succ_eq_append_getElem h, List.flatMap_append]; simp
theorem encs_len (m : List Int) : (encs m).length ≤ 10 * m.length := by
  unfold encs
  induction m with
  | nil => simp
  | cons n m ih => rw [List.flatMap_cons, List.length_append, List.length_cons]; have := enc_le n.toNat; omega
theorem own_belowL {w w' : World} {base : Nat} {e : TypeId} {sz : Nat} {v : Value} {n : Nat} {xs : List Value} (ho : w.ownsRow base e sz v n xs) (hb : Below w.heap.size w w') : w'.ownsRow base e sz v n xs :=
  ho.kept (row := none) ⟨hb.os, hb.tape, hb.output, hb.size, fun k hk _ => hb.block k hk⟩ (by cases v.ownBlock <;> simp)
/-- A row's cell. -/
theorem Bdr.below {B b : Nat} {l : List UInt8} {w w' : World} (h : Bdr B b l w) (hb : Below w.heap.size w w') : Bdr B b l w' := by
  have key : ∀ p, Lib.BuilderAt 94 5 B b p (Lib.byteCells l) w → Lib.BuilderAt 94 5 B b p (Lib.byteCells l) w' := by
    intro p hp
    have hlt := hp.lt
    obtain ⟨h1, v, h2, h3, h4⟩ := hp
    exact ⟨h1, v, (hb.block b hlt).trans h2, own_belowL h3 hb, h4⟩
  rcases h with h | h
  · exact Or.inl (key _ h)
  · exact Or.inr (key _ h)
theorem Bdr.lt {B b : Nat} {l : List UInt8} {w : World} (h : Bdr B b l w) : B ≤ b ∧ b < w.heap.size := by
  rcases h with h | h
  · exact ⟨h.1, h.lt⟩
  · exact ⟨h.1, h.lt⟩
theorem kept_below {b : Nat} {w w' : World} (hb : Below w.heap.size w w') : Lib.OthersKept 5 (some b) w w' := fun k o hk _ _ => by
  have hlt : k < w.heap.size := (Array.getElem?_eq_some_iff.1 hk).1
  exact (hb.block k hlt).trans hk
theorem Blk.kept {b q : Nat} {w w' : World} {cs : Array Value} {t : TypeId} (X : Blk w q cs t) (h : Lib.OthersKept 5 (some b) w w') (hq : q ≠ b) (ht : t ≠ 5) : Blk w' q cs t :=
  h q _ X (fun e => hq (Option.some.inj e)) (fun c fz e => by injection e with _ e2; exact ht e2)
end Go.Proofs.YtmcafgmjfgfaeaaDoor
