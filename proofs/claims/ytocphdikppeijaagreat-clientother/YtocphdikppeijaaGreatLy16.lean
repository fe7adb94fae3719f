/- (The same as Qt, over Mem: never both in one seat.) Statements that leave their order open and call functions that make new blocks: one walk in the text's order serves every order. -/
import Derived.Test.YtocphdikppeijaaGreatLy01
import Derived.Deep.QuietTactic
import Derived.BigQuiet
import Derived.Test.YtocphdikppeijaaGreatRows
import Derived.ProofKit
import Derived.OpenShut
import Derived.Deep.Slices
import Derived.Deep.Strs
import Derived.SizedLaws
import Derived.Test.YtocphdikppeijaaGreatLy14
import Derived.Test.YtocphdikppeijaaGreatLy04
namespace Go.Proofs.YtocphdikppeijaaGreat
open Go.RowKit
set_option linter.unusedVariables false
set_option linter.unusedSimpArgs false

/-- The worlds in which all that was there is as it was. -/
structure BW (w0 : World) where
  w : World
  h : Below w0.heap.size w0 w
theorem bw_some (w0 : World) : Nonempty (BW w0) := ⟨⟨w0, Below.refl _ _⟩⟩

theorem BW.call {P : Program} {w0 : World} (x : BW w0) {f : FuncId} {args : Array Value} {v : Value} (h : Calls P f args x.w fun e w' => e = .returned v ∧ Below x.w.heap.size x.w w') :
    Calls P f args x.w fun e w'' => e = .returned v ∧ ∃ y : BW w0, w'' = y.w :=
  h.mono fun _ w' ⟨he, hb⟩ => ⟨he, ⟨w', x.h.trans (hb.mono x.h.size)⟩, rfl⟩
theorem BW.cell {w0 : World} (x : BW w0) {p : Addr} {v : Value} (h : w0.cell? p = some v) : x.w.cell? p = some v := (x.h.cell (World.block_lt_of_cell? w0 _ h)).trans h

theorem wp_region_below {P : Program} {id : Nat} {Q : Exit → Act → World → Prop} {a : Act} {w : World} {l : List Oper} (hm : P.follows .mixedOrders = true) (hB : Region.lexB .any l.toArray = true)
    (h : wpQuiet P l.toArray (fun w' => ∃ x : BW w, w' = x.w) (fun a' => ∀ w', (∃ x : BW w, w' = x.w) → Q .normal a' w') l a) : (Code.region id l.toArray true).wp P Q a w :=
  wp_region_quiet (C := fun w' => ∃ x : BW w, w' = x.w) hm hB ⟨⟨w.drew, (Below.refl _ _).drew⟩, rfl⟩ (by simpa using h)
end Go.Proofs.YtocphdikppeijaaGreat

namespace Go.Proofs.YtocphdikppeijaaGreat
open Go.ChangeShapes Go.WideShapes Go.ChangeAt Go.RowKit Go.Deep
set_option linter.unusedVariables false
set_option linter.unusedSimpArgs false

/-- A slice's elements in memory: sz cells each, as R says, with B of each. -/
def Elems {α : Type} (sz : Nat) (R : α → List Value) (B : α → Prop) (w : World) (v : Value) (l : List α) : Prop :=
  ((∃ p c, v = .slice p 0 c) ∧ l = []) ∨
  ∃ b off cap, v = .slice (some ⟨b, off, none⟩) l.length cap ∧ b < w.heap.size ∧ l.length ≤ cap ∧ ∀ i (h : i < l.length), (∀ j u, (R l[i])[j]? = some u → w.cell? ⟨b, off + i * sz + j, none⟩ = some u) ∧ B l[i]
theorem Elems.below {α : Type} {sz : Nat} {R : α → List Value} {B : α → Prop} {w w' : World} {v : Value} {l : List α} (h : Elems sz R B w v l) (hb : Below w.heap.size w w') : Elems sz R B w' v l := by
  rcases h with h | ⟨b, off, cap, hv, hl, hlc, hc⟩
  · exact Or.inl h
  · exact Or.inr ⟨b, off, cap, hv, Nat.lt_of_lt_of_le hl hb.size, hlc, fun i hi => ⟨fun j u hu => (hb.cell (p := ⟨b, off + i * sz + j, none⟩) hl).trans ((hc i hi).1 j u hu), (hc i hi).2⟩⟩

/-- The same, with the empty one among them. -/
theorem Elems.any {α : Type} {sz : Nat} {R : α → List Value} {B : α → Prop} {w : World} {v : Value} {l : List α} (h : Elems sz R B w v l) :
    ∃ a cap, v = .slice a l.length cap ∧ ∀ i (h : i < l.length), ∃ g off, a = some ⟨g, off, none⟩ ∧ l.length ≤ cap ∧ g < w.heap.size ∧ (∀ j u, (R l[i])[j]? = some u → w.cell? ⟨g, off + i * sz + j, none⟩ = some u) ∧ B l[i] := by
  rcases h with ⟨⟨a, c, rfl⟩, rfl⟩ | ⟨b, off, cap, rfl, hl, hlc, hc⟩
  · exact ⟨a, c, rfl, fun i hi => absurd hi (Nat.not_lt_zero _)⟩
  · exact ⟨some ⟨b, off, none⟩, cap, rfl, fun i hi => ⟨b, off, rfl, hlc, hl, (hc i hi).1, (hc i hi).2⟩⟩

section
variable {H : Type} {enc : TypeId × Value → H} {w : World} {base : Nat} {spare : Nat → Bool} {held : Bool}

theorem weights_all_mem {P : Program} {e : TypeId} : ∀ (ds : List (DataW H)) (d : DataW H), d ∈ ds → ∀ n ∈ d.weights P e, n ∈ DataW.weightsAll P e ds
  | [], d, h, _, _ => by cases h
  | x :: r, d, h, n, hn => by
    simp only [DataW.weightsAll, List.mem_append]
    rcases List.mem_cons.1 h with rfl | h
    · exact Or.inl hn
    · exact Or.inr (weights_all_mem r d h n hn)

theorem open_elems {α : Type} [Nonempty α] {P : Program} {SL E : TypeId} {sz by_ : Nat} (R : α → List Value) (B : α → Prop) (hu : P.underlying SL = some (.slice E)) (hc : P.cellsOf E = sz) (hR : ∀ a, (R a).length = sz) (hsz0 : 0 < sz) (hby : P.bytesOf E = by_)
    (hel : ∀ fuel cs x, DataW.trod enc P w base spare held fuel E cs = some x → (x.1.weights P E).all (· ≤ reachBytes) = true → ∃ a, cs = R a ∧ B a)
    {v : Value} {d : DataW H} {p : List MemPlace} (hv : v.cells = #[v]) (h : DataW.Trod enc P w base spare held SL v d p) (hsz : (d.weights P SL).all (· ≤ reachBytes) = true) (hlt : ∀ x ∈ p, x.block < w.heap.size) :
    ∃ l : List α, Elems sz R B w v l ∧ l.length * by_ ≤ 140737488351232 := by
  obtain ⟨fuel, hf⟩ := h
  rw [hv] at hf
  rcases open_slice hu hf with ⟨hcs, _⟩ | ⟨a, len, cap, m, n, D, Pl, hcs, _, hlc, hcm, hm, hx, hcell⟩
  · simp only [List.cons.injEq, and_true] at hcs
    exact ⟨[], Or.inl ⟨⟨_, _, hcs⟩, rfl⟩, by simp⟩
  · simp only [List.cons.injEq, and_true] at hcs
    subst hcs
    have hlm : len ≤ m := by rw [hm]; split <;> omega
    simp only [Prod.mk.injEq] at hx
    obtain ⟨rfl, rfl⟩ := hx
    rw [hc] at hcell hlt
    simp only [DataW.weights, hu, List.all_cons, List.all_append, Bool.and_eq_true, decide_eq_true_eq, hby] at hsz
    obtain ⟨h1, h2, h3⟩ := hsz
    have h1' : len * by_ ≤ 140737488351232 := by
      simp only [List.length_map, List.length_range, reachBytes] at h1
      have := Nat.mul_le_mul_right by_ (show len ≤ len + (m - len) by omega)
      omega
    have hex : ∀ i, i < len → ∃ e : α, (∀ j u, (R e)[j]? = some u → w.cell? ((a.add (i * sz)).add j) = some u) ∧ B e := by
      intro i hi
      obtain ⟨cs', hcc, ht⟩ := hcell i (by omega)
      have hmem : D i ∈ (List.range len).map D := List.mem_map.2 ⟨i, List.mem_range.2 hi, rfl⟩
      obtain ⟨e, rfl, hB⟩ := hel n cs' _ ht (List.all_eq_true.2 fun k hk => List.all_eq_true.1 h2 k (weights_all_mem _ _ hmem k hk))
      obtain ⟨_, _, hq⟩ := World.cells?_some hcc
      refine ⟨e, fun j u hj => ?_, hB⟩
      have hjl : j < sz := by
        have := (List.getElem?_eq_some_iff.1 hj).1
        rw [hR] at this
        exact this
      have := hq j hjl
      rw [← hj]
      exact this
    rcases Nat.eq_zero_or_pos len with h0 | h0
    · subst h0
      exact ⟨[], Or.inl ⟨⟨_, _, rfl⟩, rfl⟩, by simp⟩
    · obtain ⟨b, off, spot⟩ := a
      have hspot : spot = none := by
        obtain ⟨e, h1, _⟩ := hex 0 h0
        have hl := hR e
        cases hr : R e with
        | nil => rw [hr] at hl; simp at hl; omega
        | cons u us =>
          have := h1 0 u (by rw [hr]; rfl)
          simpa [Addr.add] using World.cell?_spot this
      subst hspot
      have hb : b < w.heap.size := hlt (.cell b off) (List.mem_append_left _ (MemPlace.mem_row.2 ⟨0, Nat.mul_pos (by omega) hsz0, by simp⟩))
      have hex' : ∀ i, i < len → ∃ e : α, (∀ j u, (R e)[j]? = some u → w.cell? ⟨b, off + i * sz + j, none⟩ = some u) ∧ B e := by
        intro i hi
        obtain ⟨e, q, z⟩ := hex i hi
        refine ⟨e, fun j u hu => ?_, z⟩
        have := q j u hu
        rw [Addr.add_lit, Addr.add_lit] at this
        exact this
      obtain ⟨f, hf⟩ : ∃ f : Nat → α, ∀ i, i < len → (∀ j u, (R (f i))[j]? = some u → w.cell? ⟨b, off + i * sz + j, none⟩ = some u) ∧ B (f i) := by
        refine ⟨fun i => if hi : i < len then Classical.choose (hex' i hi) else Classical.choice inferInstance, fun i hi => ?_⟩
        have hc := Classical.choose_spec (hex' i hi)
        simp only [hi, dite_true]
        exact hc
      refine ⟨(List.range len).map f, Or.inr ⟨b, off, cap, by simp, hb, by simp; omega, fun i hi => ?_⟩, by simpa using h1'⟩
      simp only [List.length_map, List.length_range] at hi
      simp only [List.getElem_map, List.getElem_range]
      exact hf i hi
end

theorem own_knob : ownKnob Tryz.prog.godebug = none := by kernel_rfl
theorem prog_laid : laidOutB Tryz.prog = true := by kernel_rfl
theorem cells_Str : Tryz.prog.cellsOf 9 = 1 := by kernel_rfl
theorem cells_Int : Tryz.prog.cellsOf 3 = 1 := by kernel_rfl
theorem bytes_Str : Tryz.prog.bytesOf 9 = 16 := by kernel_rfl
end Go.Proofs.YtocphdikppeijaaGreat

namespace Go.Proofs.YtocphdikppeijaaGreat
open Go.RowKit
set_option linter.unusedSimpArgs false
set_option linter.unusedVariables false
variable {p b x y : Nat} {T : List ByteArray} {S : List (Int × ByteArray)}

theorem own_heap {w : World} {base : Nat} {e : TypeId} {sz : Nat} {v : Value} {n : Nat} {xs : List Value} (h : w.ownsRow base e sz v n xs) {k : Nat} (hk : v.ownBlock = some k) : ∃ cur, w.heap[k]? = some (.cells cur e (0, 0)) := by
  rcases h.2 with ⟨rfl, _⟩ | ⟨g, cap, cur, rfl, _, hg, _⟩
  · cases hk
  · simp only [Value.ownBlock, Option.some.injEq] at hk
    subst hk
    exact ⟨cur, hg⟩
theorem Book.apart {w : World} (h : Book w p b x y T S) {base : Nat} {e : TypeId} {sz : Nat} {v : Value} {n : Nat} {xs : List Value} (ho : w.ownsRow base e sz v n xs) (h1 : e ≠ 67) (h2 : e ≠ 118) :
    v.ownBlock ≠ some p ∧ v.ownBlock ≠ some b ∧ v.ownBlock ≠ some x ∧ v.ownBlock ≠ some y := by
  refine ⟨fun hk => ?_, fun hk => ?_, fun hk => ?_, fun hk => ?_⟩
  · obtain ⟨cur, hc⟩ := own_heap ho hk
    have := h.blk; unfold Blk at this; rw [hc] at this
    simp only [Option.some.injEq, Obj.cells.injEq] at this
    exact h1 this.2.1
  · obtain ⟨cur, hc⟩ := own_heap ho hk
    have := h.nums.blk; unfold Blk at this; rw [hc] at this
    simp only [Option.some.injEq, Obj.cells.injEq] at this
    exact h2 this.2.1
  · obtain ⟨cur, hc⟩ := own_heap ho hk
    rw [h.nums.mx] at hc; cases hc
  · obtain ⟨cur, hc⟩ := own_heap ho hk
    rw [h.nums.my] at hc; cases hc
theorem Book.grown {w w' : World} (h : Book w p b x y T S) {row : Option Nat} (hg : w.grownBy w' row) (hr : row ≠ some p ∧ row ≠ some b ∧ row ≠ some x ∧ row ≠ some y) : Book w' p b x y T S :=
  ⟨(hg.block p h.lts.1 (Ne.symm hr.1)).trans h.blk, (hg.block b h.lts.2.1 (Ne.symm hr.2.1)).trans h.nums.blk, (hg.block x h.lts.2.2.1 (Ne.symm hr.2.2.1)).trans h.nums.mx, (hg.block y h.lts.2.2.2 (Ne.symm hr.2.2.2)).trans h.nums.my, h.nums.ne⟩
theorem own_off2 {w w' : World} (h : Book w p b x y T S) {base : Nat} {e : TypeId} {sz : Nat} {v : Value} {n : Nat} {xs : List Value} (ho : w.ownsRow base e sz v n xs) (hoff : Off2 x y w w') : w'.ownsRow base e sz v n xs := by
  refine ⟨ho.1, ?_⟩
  rcases ho.2 with hn | ⟨g, cap, cur, rfl, hb, hgg, rest⟩
  · exact .inl hn
  · refine .inr ⟨g, cap, cur, rfl, hb, ?_, rest⟩
    rw [hoff.block g (lt_of_heap hgg) (fun e => by subst e; rw [h.nums.mx] at hgg; cases hgg) (fun e => by subst e; rw [h.nums.my] at hgg; cases hgg)]
    exact hgg
theorem own_below {w w' : World} {base : Nat} {e : TypeId} {sz : Nat} {v : Value} {n : Nat} {xs : List Value} (ho : w.ownsRow base e sz v n xs) (hb : Below w.heap.size w w') : w'.ownsRow base e sz v n xs :=
  ho.kept (row := none) ⟨hb.os, hb.tape, hb.output, hb.size, fun k hk _ => hb.block k hk⟩ (by cases v.ownBlock <;> simp)
/-- A row's cell. -/
theorem own_at {w : World} {base : Nat} {e : TypeId} {sz : Nat} {v : Value} {n : Nat} {xs : List Value} (ho : w.ownsRow base e sz v n xs) (hn : 0 < n) :
    ∃ g cap, v = .slice (some ⟨g, 0, none⟩) n cap ∧ base ≤ g ∧ n ≤ cap ∧ ∀ j u, xs[j]? = some u → w.cell? ⟨g, j, none⟩ = some u := by
  obtain ⟨hl, h | ⟨g, cap, cur, hv, hb, hgg, hc, _, hs, ht⟩⟩ := ho
  · omega
  · refine ⟨g, cap, hv, hb, hc, fun j u hj => ?_⟩
    rw [← ht] at hj
    rw [cell_of_row w g j cur e (0, 0) hgg]
    have hjl := (List.getElem?_eq_some_iff.1 hj).1
    rw [List.length_take] at hjl
    rw [List.getElem?_take_of_lt (by omega)] at hj
    simpa using hj
theorem below_grown {B : Nat} {z w w' : World} {row : Option Nat} (h : Below B z w) (hg : w.grownBy w' row) (hr : ∀ k, row = some k → B ≤ k) (hbs : B ≤ w.heap.size) : Below B z w' :=
  ⟨hg.os.trans h.os, hg.tape.trans h.tape, hg.output.trans h.output, Nat.le_trans h.size hg.size, fun k hk => (hg.block k (by omega) (fun e => by have := hr k e.symm; omega)).trans (h.block k hk)⟩
theorem keepCell {w w' : World} (h : Below w.heap.size w w') {a : Addr} {u : Value} (hc : w.cell? a = some u) : w'.cell? a = some u := (h.cell (World.block_lt_of_cell? w _ hc)).trans hc
theorem keepCell2 {w w' : World} (h : Book w p b x y T S) (ho : Off2 x y w w') {a : Addr} {u : Value} (hc : w.cell? a = some u) : w'.cell? a = some u := by
  have hlt := World.block_lt_of_cell? w _ hc
  rw [World.cell?_of_block (w := w) (ho.block a.block hlt (fun e => by have := h.nums.mx; rw [← e] at this; simp [World.cell?, this] at hc) (fun e => by have := h.nums.my; rw [← e] at this; simp [World.cell?, this] at hc))]
  exact hc
theorem infoStr : (Tryz.prog.info? 9).map (fun i => (i.zero, i.size, i.bytes)) = some (some (.string ⟨#[]⟩), 1, 16) := by kernel_rfl
end Go.Proofs.YtocphdikppeijaaGreat

namespace Go.Proofs.YtocphdikppeijaaGreat
open Go.RowKit
set_option linter.unusedVariables false
set_option linter.unusedSimpArgs false

structure Rc where
  key : ByteArray
  dat : ByteArray

def Rc.val (m : Rc) : Value := .agg #[.string m.key, .string m.dat]
def rcCells (l : List Rc) : List Value := l.flatMap fun m => [.string m.key, .string m.dat]
def rcB (m : Rc) : List UInt8 := txtB m.key ++ txtB m.dat
def rcsB (l : List Rc) : List UInt8 := enc l.length ++ l.flatMap rcB

/-- One text below another. -/
def lsB (a b : ByteArray) : Bool := Op.bytesLess a.toList b.toList
theorem bytesLess_flip : ∀ (x y : List UInt8), (Op.bytesLess x y || x == y) = !Op.bytesLess y x
  | [], [] => rfl
  | [], b :: y => by simp [Op.bytesLess]
  | a :: x, [] => by simp [Op.bytesLess]
  | a :: x, b :: y => by
    have ih := bytesLess_flip x y
    simp only [Op.bytesLess, List.cons_beq_cons]
    by_cases h1 : a < b
    · have h2 : ¬ b < a := by rw [UInt8.lt_iff_toNat_lt] at *; omega
      have h3 : (b == a) = false := by
        rw [beq_eq_false_iff_ne]; rintro rfl; exact absurd h1 h2
      simp [h1, h2, h3]
    · by_cases h2 : a = b
      · subst h2
        have h3 : ¬ a < a := by rw [UInt8.lt_iff_toNat_lt]; omega
        simp [h3, ih]
      · have h3 : b < a := by
          have h4 : a.toNat ≠ b.toNat := fun e => h2 (UInt8.toNat_inj.1 e)
          rw [UInt8.lt_iff_toNat_lt] at *; omega
        have h5 : (a == b) = false := by rw [beq_eq_false_iff_ne]; exact h2
        simp [h1, h3, h5]
theorem lsB_flip (a b : ByteArray) : (Op.bytesLess a.toList b.toList || a.toList == b.toList) = !lsB b a := bytesLess_flip _ _

def rcBad (m : Rc) : Bool := decide (m.key.size = 0) || decide (64 < m.key.size) || decide (4096 < m.dat.size)
/-- Why records may not be, the key ahead given. -/
def riseF (last : ByteArray) : List Rc → Int
  | [] => 0
  | m :: l => if rcBad m = true then 14 else if lsB last m.key = true then riseF m.key l else 15
def riseR (l : List Rc) : Int := if 4096 < l.length then 2 else riseF ⟨#[]⟩ l

theorem riseF_ok : ∀ (l : List Rc) (last : ByteArray), riseF last l = 0 → ∀ m ∈ l, m.key.size ≤ 64 ∧ m.dat.size ≤ 4096 := by
  intro l
  induction l with
  | nil => intro last h m hm; cases hm
  | cons x l ih =>
    intro last h m hm
    simp only [riseF] at h
    split at h
    · omega
    · rename_i hb
      split at h
      · rcases List.mem_cons.1 hm with rfl | hm
        · simp only [rcBad, Bool.or_eq_true, decide_eq_true_eq] at hb; omega
        · exact ih _ h m hm
      · omega
theorem rcB_len (m : Rc) (h : m.key.size ≤ 64 ∧ m.dat.size ≤ 4096) : (rcB m).length ≤ 4180 := by
  have h1 := txtB_len m.key
  have h2 := txtB_len m.dat
  unfold rcB
  rw [List.length_append]; omega
theorem flatMap_len {α : Type} (f : α → List UInt8) (n : Nat) : ∀ (l : List α), (∀ m ∈ l, (f m).length ≤ n) → (l.flatMap f).length ≤ n * l.length
  | [], _ => by simp
  | x :: l, h => by
    have h1 := flatMap_len f n l (fun m hm => h m (by simp [hm]))
    have h2 := h x (by simp)
    rw [List.flatMap_cons, List.length_append, List.length_cons, Nat.mul_add, Nat.mul_one]; omega
theorem take_flat {α : Type} (f : α → List UInt8) (l : List α) (k : Nat) (h : k < l.length) : (l.take (k + 1)).flatMap f = (l.take k).flatMap f ++ f l[k] := by
  rw [List.take_succ_eq_append_getElem h, List.flatMap_append]; simp
end Go.Proofs.YtocphdikppeijaaGreat
