/- A book that numbers, in memory: its two maps, and what its methods answer. -/
import Derived.Test.YtpcafjbebhcilaaGreatTm09
import Derived.Test.YtpcafjbebhcilaaGreatTm03
import Derived.ChangeKeysEq
import Derived.Deep.RegionWith
namespace Go.Proofs.YtpcafjbebhcilaaGreat
open Go.RowKit
set_option linter.unusedSimpArgs false
set_option linter.unusedVariables false

theorem zero_int (w : World) : (zeroValue 3).run Tryz.prog w = .ok (.int .i64 0) w := by kernel_rfl
theorem key_text (s : ByteArray) (e : Bool) (w : World) : (Instr.checkKey e 10000 9 (.string s)).run Tryz.prog w = .ok () w := by kernel_rfl
theorem key_pair (p : Int × ByteArray) (e : Bool) (w : World) : (Instr.checkKey e 10000 180 (pairV p)).run Tryz.prog w = .ok () w := by kernel_rfl
theorem fields_pair : (Tryz.prog.fieldsOf 180).toList.map (fun f => (f.name, f.type, f.offset)) = [("who", 3, 0), ("text", 9, 1)] := by kernel_rfl
theorem eq_pair (w : World) (p q : Int × ByteArray) : (Op.equal 180 (pairV p) (pairV q)).run Tryz.prog w = .ok (decide (p = q)) w := by
  have h1 : (Op.equal 180 (pairV p) (pairV q)).run Tryz.prog w = (Op.eqFields 9999 #[.int .i64 p.1, .string p.2] #[.int .i64 q.1, .string q.2] (Tryz.prog.fieldsOf 180).toList).run Tryz.prog w :=
    run_equalIn_agg w 9999 180 _ _ (by kernel_rfl) (by kernel_rfl)
  rw [h1]
  have hf := fields_pair
  generalize (Tryz.prog.fieldsOf 180).toList = l at hf
  cases l with
  | nil => simp at hf
  | cons f l =>
    cases l with
    | nil => simp at hf
    | cons g l =>
      cases l with
      | cons _ _ => simp at hf
      | nil =>
        simp only [List.map_cons, List.map_nil, List.cons.injEq, Prod.mk.injEq, and_true] at hf
        obtain ⟨⟨f1, f2, f3⟩, g1, g2, g3⟩ := hf
        have e1 : ∀ p : Int × ByteArray, (part 3 #[.int .i64 p.1, .string p.2] 0).run Tryz.prog w = .ok (.int .i64 p.1) w := fun p => run_part_plain w (by kernel_rfl) rfl
        have e2 : ∀ p : Int × ByteArray, (part 9 #[.int .i64 p.1, .string p.2] 1).run Tryz.prog w = .ok (.string p.2) w := fun p => run_part_plain w (by kernel_rfl) rfl
        have h3 : (Op.equalIn 9999 3 (.int .i64 p.1) (.int .i64 q.1)).run Tryz.prog w = .ok (p.1 == q.1) w := run_equalIn_int (P := Tryz.prog) w 9998 3 .i64 .i64 p.1 q.1 Tryz.underlying3
        have h4 : (Op.equalIn 9999 9 (.string p.2) (.string q.2)).run Tryz.prog w = .ok (p.2.toList == q.2.toList) w := run_equalIn_string (P := Tryz.prog) w 9998 9 p.2 q.2 Tryz.underlying9
        simp only [Op.eqFields, f1, f2, f3, g1, g2, g3, Sem.run_bind, Sem.run_ite, e1, e2, Result.andThen_ok, h3, h4, Sem.run_pure]
        obtain ⟨a, s⟩ := p
        obtain ⟨b, t⟩ := q
        by_cases hab : a = b
        · by_cases hst : s = t
          · simp [hab, hst]
          · have : ¬ s.toList = t.toList := fun h => hst ((MapKept.bytes_beq s t).1 (by rw [beq_toListBytes, h]; simp))
            simp [hab, hst, this]
        · simp [hab]

/-- A book that numbers: its block b, the maps of texts and of signed pairs. -/
structure Nums (w : World) (b x y : Nat) (T : List ByteArray) (S : List (Int × ByteArray)) : Prop where
  blk : Blk w b #[.map (some x), .map (some y)] 95
  mx : w.heap[x]? = some (.map (ents (T.map .string)) T.length)
  my : w.heap[y]? = some (.map (ents (S.map pairV)) S.length)
  ne : x ≠ y
theorem lt_of_heap {w : World} {k : Nat} {o : Obj} (h : w.heap[k]? = some o) : k < w.heap.size := (Array.getElem?_eq_some_iff.1 h).1
theorem Nums.nbx {w : World} {b x y : Nat} {T : List ByteArray} {S : List (Int × ByteArray)} (h : Nums w b x y T S) : b ≠ x := fun e => by
  have h1 := h.blk; unfold Blk at h1; rw [e, h.mx] at h1; cases h1
theorem Nums.nby {w : World} {b x y : Nat} {T : List ByteArray} {S : List (Int × ByteArray)} (h : Nums w b x y T S) : b ≠ y := fun e => by
  have h1 := h.blk; unfold Blk at h1; rw [e, h.my] at h1; cases h1
theorem Nums.below {w w' : World} {b x y : Nat} {T : List ByteArray} {S : List (Int × ByteArray)} (h : Nums w b x y T S) (k : Below w.heap.size w w') : Nums w' b x y T S :=
  ⟨h.blk.below k, (k.block x (lt_of_heap h.mx)).trans h.mx, (k.block y (lt_of_heap h.my)).trans h.my, h.ne⟩
theorem Nums.setX {w : World} {b x y : Nat} {T : List ByteArray} {S : List (Int × ByteArray)} (h : Nums w b x y T S) (s : ByteArray) (hs : s ∉ T) : Nums (World.setMap w x (T.map .string ++ [.string s])) b x y (note T s) S :=
  ⟨(setMap_other _ h.nbx.symm).trans h.blk, by
    rw [setMap_same _ (lt_of_heap h.mx), note_new hs]; simp, (setMap_other _ h.ne).trans h.my, h.ne⟩
theorem Nums.setY {w : World} {b x y : Nat} {T : List ByteArray} {S : List (Int × ByteArray)} (h : Nums w b x y T S) (p : Int × ByteArray) (hp : p ∉ S) : Nums (World.setMap w y (S.map pairV ++ [pairV p])) b x y T (note S p) :=
  ⟨(setMap_other _ h.nby.symm).trans h.blk, (setMap_other _ h.ne.symm).trans h.mx, by
    rw [setMap_same _ (lt_of_heap h.my), note_new hp]; simp, h.ne⟩
theorem Nums.lookX {w : World} {b x y : Nat} {T : List ByteArray} {S : List (Int × ByteArray)} (h : Nums w b x y T S) (s : ByteArray) :
    (Instr.lookup 92 (.map (some x)) (.string s) true).run Tryz.prog w = .ok (lookV (seek s T 0)) w :=
  run_look Tryz.underlying92 zero_int h.mx (key_text s) (fun w => findKey_text Tryz.underlying9 w s T)
theorem Nums.lookY {w : World} {b x y : Nat} {T : List ByteArray} {S : List (Int × ByteArray)} (h : Nums w b x y T S) (p : Int × ByteArray) :
    (Instr.lookup 93 (.map (some y)) (pairV p) true).run Tryz.prog w = .ok (lookV (seek p S 0)) w :=
  run_look Tryz.underlying93 zero_int h.my (key_pair p) (fun w => findKey_pair Tryz.underlying180 eq_pair w p S)
theorem Nums.lenX {w : World} {b x y : Nat} {T : List ByteArray} {S : List (Int × ByteArray)} (h : Nums w b x y T S) (ty : TypeId) : (Builtin.len_ #[92] ty #[.map (some x)]).run Tryz.prog w = .ok (.int .i64 T.length) w := by
  have h1 : (ents (T.map .string)).size = T.length := by rw [ents_size, List.length_map]
  simp [Builtin.len_, run_underlying Tryz.underlying92, MapKept.run_getObj_map h.mx, goInt, Result.andThen, h1]
theorem Nums.lenY {w : World} {b x y : Nat} {T : List ByteArray} {S : List (Int × ByteArray)} (h : Nums w b x y T S) (ty : TypeId) : (Builtin.len_ #[93] ty #[.map (some y)]).run Tryz.prog w = .ok (.int .i64 S.length) w := by
  have h1 : (ents (S.map pairV)).size = S.length := by rw [ents_size, List.length_map]
  simp [Builtin.len_, run_underlying Tryz.underlying93, MapKept.run_getObj_map h.my, goInt, Result.andThen, h1]
theorem Nums.putX {w : World} {b x y : Nat} {T : List ByteArray} {S : List (Int × ByteArray)} (h : Nums w b x y T S) (s : ByteArray) (hs : s ∉ T) :
    (Instr.mapUpdate 92 (.map (some x)) (.string s) (.int .i64 ((T.length : Int) + 1))).run Tryz.prog w = .ok () (World.setMap w x (T.map .string ++ [.string s])) := by
  have h1 := run_put (P := Tryz.prog) (w := w) (r := x) (c := 0) (vs := T.map .string) (k := .string s) (v := .int .i64 ((T.length : Int) + 1)) Tryz.underlying92 (by simpa using h.mx) (key_text s) (fun w => by
    rw [findKey_text Tryz.underlying9 w s T, seek_none s T 0 hs]; rfl) (by simp)
  rw [h1]
  simp [World.setMap]
theorem Nums.putY {w : World} {b x y : Nat} {T : List ByteArray} {S : List (Int × ByteArray)} (h : Nums w b x y T S) (p : Int × ByteArray) (hp : p ∉ S) :
    (Instr.mapUpdate 93 (.map (some y)) (pairV p) (.int .i64 ((S.length : Int) + 1))).run Tryz.prog w = .ok () (World.setMap w y (S.map pairV ++ [pairV p])) := by
  have h1 := run_put (P := Tryz.prog) (w := w) (r := y) (c := 0) (vs := S.map pairV) (k := pairV p) (v := .int .i64 ((S.length : Int) + 1)) Tryz.underlying93 (by simpa using h.my) (key_pair p) (fun w => by
    rw [findKey_pair Tryz.underlying180 eq_pair w p S, seek_none p S 0 hp]; rfl) (by simp)
  rw [h1]
  simp [World.setMap]
theorem Nums.putXe {w : World} {b x y : Nat} {T : List ByteArray} {S : List (Int × ByteArray)} (h : Nums w b x y T S) (s : ByteArray) (hs : s ∉ T) :
    ∃ W2, (Instr.mapUpdate 92 (.map (some x)) (.string s) (.int .i64 ((T.length : Int) + 1))).run Tryz.prog w = .ok () W2 ∧ Nums W2 b x y (note T s) S ∧ Off2 x y w W2 :=
  ⟨_, h.putX s hs, h.setX s hs, Off2.setMap x y w x _ (Or.inl rfl)⟩
theorem Nums.putYe {w : World} {b x y : Nat} {T : List ByteArray} {S : List (Int × ByteArray)} (h : Nums w b x y T S) (who : Int) (s : ByteArray) (hp : (who, s) ∉ S) :
    ∃ W2, (Instr.mapUpdate 93 (.map (some y)) (.agg #[.int .i64 who, .string s]) (.int .i64 ((S.length : Int) + 1))).run Tryz.prog w = .ok () W2 ∧ Nums W2 b x y T (note S (who, s)) ∧ Off2 x y w W2 :=
  ⟨_, h.putY (who, s) hp, h.setY (who, s) hp, Off2.setMap x y w y _ (Or.inr rfl)⟩
end Go.Proofs.YtpcafjbebhcilaaGreat
