/- A book behind its interface: the one that numbers. -/
import Derived.Test.YtocphdikppeijaaGreatLy13
import Derived.Test.YtocphdikppeijaaGreatLy01
import Derived.Handy
import Derived.WalkLawsBesides
namespace Go.Proofs.YtocphdikppeijaaGreat
open Go.RowKit
set_option linter.unusedSimpArgs false
set_option linter.unusedVariables false

/-- A book that numbers: its block p, the scheme's b, the two maps x and y. -/
structure Book (w : World) (p b x y : Nat) (T : List ByteArray) (S : List (Int × ByteArray)) : Prop where
  blk : Blk w p #[.iface 62 (.pointer (some ⟨b, 0, none⟩))] 67
  nums : Nums w b x y T S
variable {p b x y : Nat} {T : List ByteArray} {S : List (Int × ByteArray)}
theorem Book.npx {w : World} (h : Book w p b x y T S) : p ≠ x := fun e => by
  have h1 := h.blk; unfold Blk at h1; rw [e, h.nums.mx] at h1; cases h1
theorem Book.npy {w : World} (h : Book w p b x y T S) : p ≠ y := fun e => by
  have h1 := h.blk; unfold Blk at h1; rw [e, h.nums.my] at h1; cases h1
theorem Book.below {w w' : World} (h : Book w p b x y T S) (k : Below w.heap.size w w') : Book w' p b x y T S := ⟨h.blk.below k, h.nums.below k⟩

theorem Book.lts {w : World} (h : Book w p b x y T S) : p < w.heap.size ∧ b < w.heap.size ∧ x < w.heap.size ∧ y < w.heap.size := ⟨h.blk.lt, h.nums.blk.lt, lt_of_heap h.nums.mx, lt_of_heap h.nums.my⟩
theorem made_calls (w : World) (h : Book w p b x y T S) : Calls Tryz.prog 46 #[.pointer (some ⟨p, 0, none⟩)] w fun e w' => e = .returned (.bool true) ∧ w' = w := by
  have c0 : w.cell? ⟨p, 0, none⟩ = some (.iface 62 (.pointer (some ⟨b, 0, none⟩))) := h.blk.cell rfl
  go_enter Tryz.func46, Tryz.ntmps46
  go_wp2
  go_ret
  exact ⟨rfl, rfl⟩
def isSg (who : Int) : Bool := decide (0 ≤ who ∧ who ≤ 255)
theorem isSigner_calls (who : Int) (w : World) : Calls Tryz.prog 61 #[.int .i64 who] w fun e w' => e = .returned (.bool (isSg who)) ∧ w' = w := by
  unfold isSg
  by_cases h1 : 0 ≤ who
  · have hd1 : decide (0 ≤ who) = true := decide_eq_true h1
    have hd2 : decide (0 ≤ who ∧ who ≤ 255) = decide (who ≤ 255) := by simp [h1]
    rw [hd2]
    go_enter Tryz.func61, Tryz.ntmps61
    go_wp2
    go_ret
    exact ⟨rfl, rfl⟩
  · have hd1 : decide (0 ≤ who) = false := decide_eq_false h1
    have hd2 : decide (0 ≤ who ∧ who ≤ 255) = false := by simp [h1]
    rw [hd2]
    go_enter Tryz.func61, Tryz.ntmps61
    go_wp2
    go_ret
    exact ⟨rfl, rfl⟩

set_option maxHeartbeats 1000000 in
set_option maxRecDepth 100000 in
theorem newNumbers_calls (w : World) : Calls Tryz.prog 18 #[] w fun e w' => ∃ b x y, e = .returned (.pointer (some ⟨b, 0, none⟩)) ∧ Nums w' b x y [] [] ∧ Below w.heap.size w w' ∧ w.heap.size ≤ b ∧ w.heap.size ≤ x ∧ w.heap.size ≤ y := by
  have hmk : ∀ t wx, (Instr.makeMap t none).run Tryz.prog wx = .ok (.map (some wx.heap.size)) (wx.alloc (.map #[] 0)) := fun _ _ => rfl
  go_enter Tryz.func18, Tryz.ntmps18
  go_wp2
  go_ret
  have hx : (((w.alloc (.map #[] 0)).alloc (.map #[] 0)).alloc (.cells #[.map (some w.heap.size), .map (some (w.heap.size + 1))] 118)).heap[w.heap.size]? = some (.map #[] 0) :=
    ((MapKept.heap_alloc _ _).2 _ (by simp; omega)).trans (((MapKept.heap_alloc _ _).2 _ (by simp)).trans (MapKept.heap_alloc _ _).1)
  have hy : (((w.alloc (.map #[] 0)).alloc (.map #[] 0)).alloc (.cells #[.map (some w.heap.size), .map (some (w.heap.size + 1))] 118)).heap[w.heap.size + 1]? = some (.map #[] 0) :=
    ((MapKept.heap_alloc _ _).2 _ (by simp)).trans (by have := (MapKept.heap_alloc (w.alloc (.map #[] 0)) (.map #[] 0)).1; simpa using this)
  refine ⟨w.heap.size + 2, w.heap.size, w.heap.size + 1, rfl, ⟨blk_new _ _ _ _ (by simp), hx, hy, by omega⟩, by go_grown, by omega, by omega, by omega⟩

set_option maxHeartbeats 1000000 in
set_option maxRecDepth 100000 in
theorem newBook_calls (w : World) : Calls Tryz.prog 5 #[] w fun e w' => ∃ p b x y, e = .returned (.pointer (some ⟨p, 0, none⟩)) ∧ Book w' p b x y [] [] ∧ Below w.heap.size w w' ∧ w.heap.size ≤ p ∧ w.heap.size ≤ b ∧ w.heap.size ≤ x ∧ w.heap.size ≤ y := by
  go_enter Tryz.func5, Tryz.ntmps5
  go_wp2_with fail
  refine (newNumbers_calls _).mono ?_
  rintro e w1 ⟨b, x, y, rfl, hN, hb, h1, h2, h3⟩
  go_wp2
  go_ret
  have hz := hb.size
  exact ⟨w1.heap.size, b, x, y, rfl, ⟨blk_new _ _ _ _ rfl, hN.below ((Below.refl _ _).alloc (Nat.le_refl _) _)⟩, hb.alloc hz _, hz, h1, h2, h3⟩

set_option maxHeartbeats 1000000 in
set_option maxRecDepth 100000 in
theorem bookDigest_calls (s : ByteArray) (w : World) (h : Book w p b x y T S) (hT : T.length < 1000000) (hs : s.size ≤ 140737488351232) :
    Calls Tryz.prog 104 #[.pointer (some ⟨p, 0, none⟩), .string s] w fun e w' => e = .returned (.string (eightB (num (note T s) s))) ∧ Book w' p b x y (note T s) S ∧ Off2 x y w w' := by
  have c0 : w.cell? ⟨p, 0, none⟩ = some (.iface 62 (.pointer (some ⟨b, 0, none⟩))) := h.blk.cell rfl
  have hd := digest_calls s w h.nums hT hs
  have hm := made_calls w h
  go_enter Tryz.func104, Tryz.ntmps104
  go_wp2_with fail
  refine hm.mono ?_
  rintro e w1 ⟨rfl, rfl⟩
  go_wp2_with fail
  refine hd.mono ?_
  rintro e w2 ⟨rfl, hN, ho⟩
  go_wp2
  go_ret
  exact ⟨rfl, ⟨h.blk.off2 ho h.npx h.npy, hN⟩, ho⟩

set_option maxHeartbeats 1000000 in
set_option maxRecDepth 100000 in
theorem bookDigest_old (s : ByteArray) (w : World) (h : Book w p b x y T S) (hT : T.length < 1000000) (hm : s ∈ T) :
    Calls Tryz.prog 104 #[.pointer (some ⟨p, 0, none⟩), .string s] w fun e w' => e = .returned (.string (eightB (num T s))) ∧ Below w.heap.size w w' := by
  have c0 : w.cell? ⟨p, 0, none⟩ = some (.iface 62 (.pointer (some ⟨b, 0, none⟩))) := h.blk.cell rfl
  have hd := digest_old s w h.nums hT hm
  have hm := made_calls w h
  go_enter Tryz.func104, Tryz.ntmps104
  go_wp2_with fail
  refine hm.mono ?_
  rintro e w1 ⟨rfl, rfl⟩
  go_wp2_with fail
  refine hd.mono ?_
  rintro e w2 ⟨rfl, hb⟩
  go_wp2
  go_ret
  exact ⟨rfl, hb⟩

/-- What Sign answers, and what is signed then. -/
def signR (S : List (Int × ByteArray)) (who : Int) (s : ByteArray) : Array Value := if isSg who = true then #[.string (sgnB (num (note S (who, s)) (who, s))), .int .i64 0] else #[.string ⟨#[]⟩, .int .i64 1]
def signS (S : List (Int × ByteArray)) (who : Int) (s : ByteArray) : List (Int × ByteArray) := if isSg who = true then note S (who, s) else S

set_option maxHeartbeats 1000000 in
set_option maxRecDepth 100000 in
theorem bookSign_calls (who : Int) (s : ByteArray) (w : World) (h : Book w p b x y T S) (hS : S.length < 1000000) (hs : s.size ≤ 140737488351232) :
    Calls Tryz.prog 48 #[.pointer (some ⟨p, 0, none⟩), .int .i64 who, .string s] w fun e w' => e = .returned (.tuple (signR S who s)) ∧ Book w' p b x y T (signS S who s) ∧ Off2 x y w w' := by
  have c0 : w.cell? ⟨p, 0, none⟩ = some (.iface 62 (.pointer (some ⟨b, 0, none⟩))) := h.blk.cell rfl
  have hd := sign_calls who s w h.nums hS hs
  have hm := made_calls w h
  have hi := isSigner_calls who w
  unfold signR signS
  cases hw : isSg who
  · rw [hw] at hi
    simp only [Bool.false_eq_true, if_false]
    go_enter Tryz.func48, Tryz.ntmps48
    go_wp2_with fail
    refine hm.mono ?_
    rintro e w1 ⟨rfl, rfl⟩
    go_wp2_with fail
    refine hi.mono ?_
    rintro e w1 ⟨rfl, rfl⟩
    go_wp2
    go_ret2
    exact ⟨rfl, h, Off2.refl _ _ _⟩
  · rw [hw] at hi
    simp only [if_true]
    go_enter Tryz.func48, Tryz.ntmps48
    go_wp2_with fail
    refine hm.mono ?_
    rintro e w1 ⟨rfl, rfl⟩
    go_wp2_with fail
    refine hi.mono ?_
    rintro e w1 ⟨rfl, rfl⟩
    go_wp2_with fail
    refine hd.mono ?_
    rintro e w2 ⟨rfl, hN, ho⟩
    go_wp2
    go_ret2
    exact ⟨rfl, ⟨h.blk.off2 ho h.npx h.npy, hN⟩, ho⟩

/-- What Check and Issued answer. -/
def chkB (S : List (Int × ByteArray)) (who : Int) (s sig : ByteArray) : Bool := isSg who && chk S who s sig
def issB (S : List (Int × ByteArray)) (who : Int) (s : ByteArray) : Bool := isSg who && isIn S (who, s)

set_option maxHeartbeats 1000000 in
set_option maxRecDepth 100000 in
theorem bookCheck_calls (who : Int) (s sig : ByteArray) (w : World) (h : Book w p b x y T S) (hS : S.length < 1000000) :
    Calls Tryz.prog 92 #[.pointer (some ⟨p, 0, none⟩), .int .i64 who, .string s, .string sig] w fun e w' => e = .returned (.bool (chkB S who s sig)) ∧ Below w.heap.size w w' := by
  have c0 : w.cell? ⟨p, 0, none⟩ = some (.iface 62 (.pointer (some ⟨b, 0, none⟩))) := h.blk.cell rfl
  have hd := check_calls who s sig w h.nums hS
  have hm := made_calls w h
  have hi := isSigner_calls who w
  unfold chkB
  generalize chk S who s sig = C at hd
  cases hw : isSg who
  · rw [hw] at hi
    rw [Bool.false_and]
    go_enter Tryz.func92, Tryz.ntmps92
    go_wp2_with fail
    refine hm.mono ?_
    rintro e w1 ⟨rfl, rfl⟩
    go_wp2_with fail
    refine hi.mono ?_
    rintro e w1 ⟨rfl, rfl⟩
    go_wp2
    go_ret
    exact ⟨rfl, Below.refl _ _⟩
  · rw [hw] at hi
    rw [Bool.true_and]
    go_enter Tryz.func92, Tryz.ntmps92
    go_wp2_with fail
    refine hm.mono ?_
    rintro e w1 ⟨rfl, rfl⟩
    go_wp2_with fail
    refine hi.mono ?_
    rintro e w1 ⟨rfl, rfl⟩
    go_wp2_with fail
    refine hd.mono ?_
    rintro e w2 ⟨rfl, hb⟩
    go_wp2
    go_ret
    exact ⟨rfl, hb⟩

end Go.Proofs.YtocphdikppeijaaGreat

namespace Go.Proofs.YtocphdikppeijaaGreat
open Go.RowKit
set_option linter.unusedSimpArgs false
set_option linter.unusedVariables false
/-- The walk's step at a load of a whole row. -/
theorem rd_row {P : Program} {ops : Array Oper} {rest : List Oper} {dst : Option Tmp} {type : TypeId} {pos : String} {after : Array Edge} {a : Act} {w : World} {Q : Exit → Act → World → Prop} {ty : TypeId} {x : Operand}
    {k : Nat} {cs : Array Value} {t : TypeId} {d : TypeDesc} (X : Blk w k cs t) (hu : P.underlying ty = some d) (hd : d.isRow = true) (hi : (P.info? ty).map (·.size) = some cs.size)
    (hx : a.eval x = .pointer (some ⟨k, 0, none⟩)) (h : wpList P ops Q rest (a.put dst (.agg cs)) w) :
    wpList P ops Q ({ dst := dst, op := .load ty x, type := type, pos := pos, after := after, guard := none } :: rest) a w :=
  wpList_load_row (o := { dst := dst, op := .load ty x, type := type, pos := pos, after := after, guard := none }) rfl ty x rfl k hx t cs (0, 0) d X hu (by cases d <;> simp_all) hi h
/-- The walk's step at a store of a whole row: the world behind it has a name. -/
theorem st_row {P : Program} {ops : Array Oper} {rest : List Oper} {dst : Option Tmp} {type : TypeId} {pos : String} {after : Array Edge} {a : Act} {w : World} {Q : Exit → Act → World → Prop} {ty : TypeId} {x y : Operand}
    {k : Nat} {cs cs' : Array Value} {t : TypeId} (X : Blk w k cs t) (hi : (P.info? ty).map (·.size) = some cs'.size) (hs : cs.size = cs'.size) (h1 : cs'.all (·.oneCell') = true) {W : World} (hW : w.setRow k cs' = W)
    (hx : a.eval x = .pointer (some ⟨k, 0, none⟩)) (hy : a.eval y = .agg cs') (h : wpList P ops Q rest (a.put dst undef) W) :
    wpList P ops Q ({ dst := dst, op := .store ty x y, type := type, pos := pos, after := after, guard := none } :: rest) a w := by
  subst hW
  exact wpList_store_row (o := { dst := dst, op := .store ty x y, type := type, pos := pos, after := after, guard := none }) rfl ty x y rfl k cs' hx hy t cs X hi hs h1 h
/-- A struct's block behind a store of the whole. -/
theorem setRow_named {w : World} {k : Nat} {cs : Array Value} {t : TypeId} (X : Blk w k cs t) (cs' : Array Value) : ∃ W, w.setRow k cs' = W ∧ Blk W k cs' t ∧ (∀ j, j ≠ k → W.heap[j]? = w.heap[j]?) ∧ W.heap.size = w.heap.size ∧ W.os = w.os ∧ W.tape = w.tape ∧ W.output = w.output :=
  ⟨_, rfl, X.setRow cs', fun j hj => setRow_other w k j cs' hj, by simp, rfl, rfl, rfl⟩
theorem below_row {w0 w W : World} {k B : Nat} {cs' : Array Value} (h : Below B w0 w) (hW : w.setRow k cs' = W) (hk : B ≤ k) : Below B w0 W := hW ▸ below_setRow h k cs' hk
theorem blk_row {w W : World} {k j : Nat} {cs cs' : Array Value} {t : TypeId} (X : Blk w j cs t) (hW : w.setRow k cs' = W) (hk : j ≠ k) : Blk W j cs t := hW ▸ X.setRowOther cs' hk
end Go.Proofs.YtocphdikppeijaaGreat
