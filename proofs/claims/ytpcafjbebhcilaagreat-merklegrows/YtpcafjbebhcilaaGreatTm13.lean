/- Rows that are the call's own beside a book. -/
import Derived.Test.YtpcafjbebhcilaaGreatTm11
import Derived.Test.YtpcafjbebhcilaaGreatTm12
import Derived.Test.YtpcafjbebhcilaaGreatTm08
namespace Go.Proofs.YtpcafjbebhcilaaGreat
open Go.RowKit
set_option linter.unusedSimpArgs false
set_option linter.unusedVariables false
variable {p b x y : Nat} {T : List ByteArray} {S : List (Int × ByteArray)}

theorem own_heap {w : World} {base : Nat} {e : TypeId} {sz : Nat} {v : Value} {n : Nat} {xs : List Value} (h : w.ownsRow base e sz v n xs) {k : Nat} (hk : v.ownBlock = some k) : ∃ cur, w.heap[k]? = some (.cells cur e (0, 0)) := by
  rcases h.2 with ⟨rfl, _⟩ | ⟨g, cap, cur, rfl, _, hg, _⟩
  · cases hk
  · simp only [Value.ownBlock, Option.some.injEq] at hk
    subst hk
    exact ⟨cur, hg⟩
theorem Book.apart {w : World} (h : Book w p b x y T S) {base : Nat} {e : TypeId} {sz : Nat} {v : Value} {n : Nat} {xs : List Value} (ho : w.ownsRow base e sz v n xs) (h1 : e ≠ 60) (h2 : e ≠ 95) :
    v.ownBlock ≠ some p ∧ v.ownBlock ≠ some b ∧ v.ownBlock ≠ some x ∧ v.ownBlock ≠ some y := by
  refine ⟨fun hk => ?_, fun hk => ?_, fun hk => ?_, fun hk => ?_⟩
  · obtain ⟨cur, hc⟩ := own_heap ho hk
    have := h.blk; unfold Blk at this; rw [hc] at this
    simp only [Option.some.injEq, Obj.cells.injEq] at this
    exact h1 this.2.1
  · obtain ⟨cur, hc⟩ := own_heap ho hk
    have := h.nums.blk; unfold Blk at this; rw [hc] at this
    simp only [Option.some.injEq, Obj.cells.injEq] at this
    exact h2 this.2.1
  · obtain ⟨cur, hc⟩ := own_heap ho hk
    rw [h.nums.mx] at hc; cases hc
  · obtain ⟨cur, hc⟩ := own_heap ho hk
    rw [h.nums.my] at hc; cases hc
theorem Book.grown {w w' : World} (h : Book w p b x y T S) {row : Option Nat} (hg : w.grownBy w' row) (hr : row ≠ some p ∧ row ≠ some b ∧ row ≠ some x ∧ row ≠ some y) : Book w' p b x y T S :=
  ⟨(hg.block p h.lts.1 (Ne.symm hr.1)).trans h.blk, (hg.block b h.lts.2.1 (Ne.symm hr.2.1)).trans h.nums.blk, (hg.block x h.lts.2.2.1 (Ne.symm hr.2.2.1)).trans h.nums.mx, (hg.block y h.lts.2.2.2 (Ne.symm hr.2.2.2)).trans h.nums.my, h.nums.ne⟩
theorem own_off2 {w w' : World} (h : Book w p b x y T S) {base : Nat} {e : TypeId} {sz : Nat} {v : Value} {n : Nat} {xs : List Value} (ho : w.ownsRow base e sz v n xs) (hoff : Off2 x y w w') : w'.ownsRow base e sz v n xs := by
  refine ⟨ho.1, ?_⟩
  rcases ho.2 with hn | ⟨g, cap, cur, rfl, hb, hgg, rest⟩
  · exact .inl hn
  · refine .inr ⟨g, cap, cur, rfl, hb, ?_, rest⟩
    rw [hoff.block g (lt_of_heap hgg) (fun e => by subst e; rw [h.nums.mx] at hgg; cases hgg) (fun e => by subst e; rw [h.nums.my] at hgg; cases hgg)]
    exact hgg
theorem own_below {w w' : World} {base : Nat} {e : TypeId} {sz : Nat} {v : Value} {n : Nat} {xs : List Value} (ho : w.ownsRow base e sz v n xs) (hb : Below w.heap.size w w') : w'.ownsRow base e sz v n xs :=
  ho.kept (row := none) ⟨hb.os, hb.tape, hb.output, hb.size, fun k hk _ => hb.block k hk⟩ (by cases v.ownBlock <;> simp)
/-- A row's cell. -/
theorem own_at {w : World} {base : Nat} {e : TypeId} {sz : Nat} {v : Value} {n : Nat} {xs : List Value} (ho : w.ownsRow base e sz v n xs) (hn : 0 < n) :
    ∃ g cap, v = .slice (some ⟨g, 0, none⟩) n cap ∧ base ≤ g ∧ n ≤ cap ∧ ∀ j u, xs[j]? = some u → w.cell? ⟨g, j, none⟩ = some u := by
  obtain ⟨hl, h | ⟨g, cap, cur, hv, hb, hgg, hc, _, hs, ht⟩⟩ := ho
  · omega
  · refine ⟨g, cap, hv, hb, hc, fun j u hj => ?_⟩
    rw [← ht] at hj
    rw [cell_of_row w g j cur e (0, 0) hgg]
    have hjl := (List.getElem?_eq_some_iff.1 hj).1
    rw [List.length_take] at hjl
    rw [List.getElem?_take_of_lt (by omega)] at hj
    simpa using hj
theorem below_grown {B : Nat} {z w w' : World} {row : Option Nat} (h : Below B z w) (hg : w.grownBy w' row) (hr : ∀ k, row = some k → B ≤ k) (hbs : B ≤ w.heap.size) : Below B z w' :=
  ⟨hg.os.trans h.os, hg.tape.trans h.tape, hg.output.trans h.output, Nat.le_trans h.size hg.size, fun k hk => (hg.block k (by omega) (fun e => by have := hr k e.symm; omega)).trans (h.block k hk)⟩
theorem keepCell {w w' : World} (h : Below w.heap.size w w') {a : Addr} {u : Value} (hc : w.cell? a = some u) : w'.cell? a = some u := (h.cell (World.block_lt_of_cell? w _ hc)).trans hc
theorem keepCell2 {w w' : World} (h : Book w p b x y T S) (ho : Off2 x y w w') {a : Addr} {u : Value} (hc : w.cell? a = some u) : w'.cell? a = some u := by
  have hlt := World.block_lt_of_cell? w _ hc
  rw [World.cell?_of_block (w := w) (ho.block a.block hlt (fun e => by have := h.nums.mx; rw [← e] at this; simp [World.cell?, this] at hc) (fun e => by have := h.nums.my; rw [← e] at this; simp [World.cell?, this] at hc))]
  exact hc
theorem infoStr : (Tryz.prog.info? 9).map (fun i => (i.zero, i.size, i.bytes)) = some (some (.string ⟨#[]⟩), 1, 16) := by kernel_rfl
end Go.Proofs.YtpcafjbebhcilaaGreat

namespace Go.Proofs.YtpcafjbebhcilaaGreat
open Go.RowKit
set_option linter.unusedVariables false
set_option linter.unusedSimpArgs false

structure Rc where
  key : ByteArray
  dat : ByteArray

def Rc.val (m : Rc) : Value := .agg #[.string m.key, .string m.dat]
def rcCells (l : List Rc) : List Value := l.flatMap fun m => [.string m.key, .string m.dat]
def rcB (m : Rc) : List UInt8 := txtB m.key ++ txtB m.dat
def rcsB (l : List Rc) : List UInt8 := enc l.length ++ l.flatMap rcB

/-- One text below another. -/
def lsB (a b : ByteArray) : Bool := Op.bytesLess a.toList b.toList
theorem bytesLess_flip : ∀ (x y : List UInt8), (Op.bytesLess x y || x == y) = !Op.bytesLess y x
  | [], [] => rfl
  | [], b :: y => by simp [Op.bytesLess]
  | a :: x, [] => by simp [Op.bytesLess]
  | a :: x, b :: y => by
    have ih := bytesLess_flip x y
    simp only [Op.bytesLess, List.cons_beq_cons]
    by_cases h1 : a < b
    · have h2 : ¬ b < a := by rw [UInt8.lt_iff_toNat_lt] at *; omega
      have h3 : (b == a) = false := by
        rw [beq_eq_false_iff_ne]; rintro rfl; exact absurd h1 h2
      simp [h1, h2, h3]
    · by_cases h2 : a = b
      · subst h2
        have h3 : ¬ a < a := by rw [UInt8.lt_iff_toNat_lt]; omega
        simp [h3, ih]
      · have h3 : b < a := by
          have h4 : a.toNat ≠ b.toNat := fun e => h2 (UInt8.toNat_inj.1 e)
          rw [UInt8.lt_iff_toNat_lt] at *; omega
        have h5 : (a == b) = false := by rw [beq_eq_false_iff_ne]; exact h2
        simp [h1, h3, h5]
theorem lsB_flip (a b : ByteArray) : (Op.bytesLess a.toList b.toList || a.toList == b.toList) = !lsB b a := bytesLess_flip _ _

def rcBad (m : Rc) : Bool := decide (m.key.size = 0) || decide (64 < m.key.size) || decide (4096 < m.dat.size)
/-- Why records may not be, the key ahead given. -/
def riseF (last : ByteArray) : List Rc → Int
  | [] => 0
  | m :: l => if rcBad m = true then 14 else if lsB last m.key = true then riseF m.key l else 15
def riseR (l : List Rc) : Int := if 4096 < l.length then 2 else riseF ⟨#[]⟩ l

theorem riseF_ok : ∀ (l : List Rc) (last : ByteArray), riseF last l = 0 → ∀ m ∈ l, m.key.size ≤ 64 ∧ m.dat.size ≤ 4096 := by
  intro l
  induction l with
  | nil => intro last h m hm; cases hm
  | cons x l ih =>
    intro last h m hm
    simp only [riseF] at h
    split at h
    · omega
    · rename_i hb
      split at h
      · rcases List.mem_cons.1 hm with rfl | hm
        · simp only [rcBad, Bool.or_eq_true, decide_eq_true_eq] at hb; omega
        · exact ih _ h m hm
      · omega
theorem rcB_len (m : Rc) (h : m.key.size ≤ 64 ∧ m.dat.size ≤ 4096) : (rcB m).length ≤ 4180 := by
  have h1 := txtB_len m.key
  have h2 := txtB_len m.dat
  unfold rcB
  rw [List.length_append]; omega
theorem flatMap_len {α : Type} (f : α → List UInt8) (n : Nat) : ∀ (l : List α), (∀ m ∈ l, (f m).length ≤ n) → (l.flatMap f).length ≤ n * l.length
  | [], _ => by simp
  | x :: l, h => by
    have h1 := flatMap_len f n l (fun m hm => h m (by simp [hm]))
    have h2 := h x (by simp)
    rw [List.flatMap_cons, List.length_append, List.length_cons, Nat.mul_add, Nat.mul_one]; omega
theorem take_flat {α : Type} (f : α → List UInt8) (l : List α) (k : Nat) (h : k < l.length) : (l.take (k + 1)).flatMap f = (l.take k).flatMap f ++ f l[k] := by
  rw [List.take_succ_eq_append_getElem h, List.flatMap_append]; simp
end Go.Proofs.YtpcafjbebhcilaaGreat
