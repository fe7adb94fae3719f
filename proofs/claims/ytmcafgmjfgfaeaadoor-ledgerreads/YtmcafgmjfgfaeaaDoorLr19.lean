/- A slice whose elements are read by a given law, that comes in as an argument: opened, with the sizes of what it holds. -/
import Derived.Test.YtmcafgmjfgfaeaaDoorRows
import Derived.ProofKit
import Derived.OpenShut
import Derived.Deep.Slices
import Derived.Deep.Strs
import Derived.SizedLaws
import Derived.Test.YtmcafgmjfgfaeaaDoorLr09
import Derived.Lib.ConvBytes
namespace Go.Proofs.YtmcafgmjfgfaeaaDoor
open Go.ChangeShapes Go.WideShapes Go.ChangeAt Go.RowKit Go.Deep
set_option linter.unusedVariables false
set_option linter.unusedSimpArgs false

/-- A slice's elements in memory: sz cells each, as R says, with B of each. -/
def Elems {α : Type} (sz : Nat) (R : α → List Value) (B : α → Prop) (w : World) (v : Value) (l : List α) : Prop :=
  ((∃ p c, v = .slice p 0 c) ∧ l = []) ∨
  ∃ b off cap, v = .slice (some ⟨b, off, none⟩) l.length cap ∧ b < w.heap.size ∧ l.length ≤ cap ∧ ∀ i (h : i < l.length), (∀ j u, (R l[i])[j]? = some u → w.cell? ⟨b, off + i * sz + j, none⟩ = some u) ∧ B l[i]
theorem Elems.below {α : Type} {sz : Nat} {R : α → List Value} {B : α → Prop} {w w' : World} {v : Value} {l : List α} (h : Elems sz R B w v l) (hb : Below w.heap.size w w') : Elems sz R B w' v l := by
  rcases h with h | ⟨b, off, cap, hv, hl, hlc, hc⟩
  · exact Or.inl h
  · exact Or.inr ⟨b, off, cap, hv, Nat.lt_of_lt_of_le hl hb.size, hlc, fun i hi => ⟨fun j u hu => (hb.cell (p := ⟨b, off + i * sz + j, none⟩) hl).trans ((hc i hi).1 j u hu), (hc i hi).2⟩⟩

/-- The same, with the empty one among them. -/
theorem Elems.any {α : Type} {sz : Nat} {R : α → List Value} {B : α → Prop} {w : World} {v : Value} {l : List α} (h : Elems sz R B w v l) :
    ∃ a cap, v = .slice a l.length cap ∧ ∀ i (h : i < l.length), ∃ g off, a = some ⟨g, off, none⟩ ∧ l.length ≤ cap ∧ g < w.heap.size ∧ (∀ j u, (R l[i])[j]? = some u → w.cell? ⟨g, off + i * sz + j, none⟩ = some u) ∧ B l[i] := by
  rcases h with ⟨⟨a, c, rfl⟩, rfl⟩ | ⟨b, off, cap, rfl, hl, hlc, hc⟩
  · exact ⟨a, c, rfl, fun i hi => absurd hi (Nat.not_lt_zero _)⟩
  · exact ⟨some ⟨b, off, none⟩, cap, rfl, fun i hi => ⟨b, off, rfl, hlc, hl, (hc i hi).1, (hc i hi).2⟩⟩

section
variable {H : Type} {enc : TypeId × Value → H} {w : World} {base : Nat} {spare : Nat → Bool} {held : Bool}

theorem weights_all_mem {P : Program} {e : TypeId} : ∀ (ds : List (DataW H)) (d : DataW H), d ∈ ds → ∀ n ∈ d.weights P e, n ∈ DataW.weightsAll P e ds
  | [], d, h, _, _ => by cases h
  | x :: r, d, h, n, hn => by
    simp only [DataW.weightsAll, List.mem_append]
    rcases List.mem_cons.1 h with rfl | h
    · exact Or.inl hn
    · exact Or.inr (weights_all_mem r d h n hn)

theorem open_elems {α : Type} [Nonempty α] {P : Program} {SL E : TypeId} {sz by_ : Nat} (R : α → List Value) (B : α → Prop) (hu : P.underlying SL = some (.slice E)) (hc : P.cellsOf E = sz) (hR : ∀ a, (R a).length = sz) (hsz0 : 0 < sz) (hby : P.bytesOf E = by_)
    (hel : ∀ fuel cs x, DataW.trod enc P w base spare held fuel E cs = some x → (x.1.weights P E).all (· ≤ reachBytes) = true → ∃ a, cs = R a ∧ B a)
    {v : Value} {d : DataW H} {p : List MemPlace} (hv : v.cells = #[v]) (h : DataW.Trod enc P w base spare held SL v d p) (hsz : (d.weights P SL).all (· ≤ reachBytes) = true) (hlt : ∀ x ∈ p, x.block < w.heap.size) :
    ∃ l : List α, Elems sz R B w v l ∧ l.length * by_ ≤ 140737488351232 := by
  obtain ⟨fuel, hf⟩ := h
  rw [hv] at hf
  rcases open_slice hu hf with ⟨hcs, _⟩ | ⟨a, len, cap, m, n, D, Pl, hcs, _, hlc, hcm, hm, hx, hcell⟩
  · simp only [List.cons.injEq, and_true] at hcs
    exact ⟨[], Or.inl ⟨⟨_, _, hcs⟩, rfl⟩, by simp⟩
  · simp only [List.cons.injEq, and_true] at hcs
    subst hcs
    have hlm : len ≤ m := by rw [hm]; split <;> omega
    simp only [Prod.mk.injEq] at hx
    obtain ⟨rfl, rfl⟩ := hx
    rw [hc] at hcell hlt
    simp only [DataW.weights, hu, List.all_cons, List.all_append, Bool.and_eq_true, decide_eq_true_eq, hby] at hsz
    obtain ⟨h1, h2, h3⟩ := hsz
    have h1' : len * by_ ≤ 140737488351232 := by
      simp only [List.length_map, List.length_range, reachBytes] at h1
      have := Nat.mul_le_mul_right by_ (show len ≤ len + (m - len) by omega)
      omega
    have hex : ∀ i, i < len → ∃ e : α, (∀ j u, (R e)[j]? = some u → w.cell? ((a.add (i * sz)).add j) = some u) ∧ B e := by
      intro i hi
      obtain ⟨cs', hcc, ht⟩ := hcell i (by omega)
      have hmem : D i ∈ (List.range len).map D := List.mem_map.2 ⟨i, List.mem_range.2 hi, rfl⟩
      obtain ⟨e, rfl, hB⟩ := hel n cs' _ ht (List.all_eq_true.2 fun k hk => List.all_eq_true.1 h2 k (weights_all_mem _ _ hmem k hk))
      obtain ⟨_, _, hq⟩ := World.cells?_some hcc
      refine ⟨e, fun j u hj => ?_, hB⟩
      have hjl : j < sz := by
        have := (List.getElem?_eq_some_iff.1 hj).1
        rw [hR] at this
        exact this
      have := hq j hjl
      rw [← hj]
      exact this
    rcases Nat.eq_zero_or_pos len with h0 | h0
    · subst h0
      exact ⟨[], Or.inl ⟨⟨_, _, rfl⟩, rfl⟩, by simp⟩
    · obtain ⟨b, off, spot⟩ := a
      have hspot : spot = none := by
        obtain ⟨e, h1, _⟩ := hex 0 h0
        have hl := hR e
        cases hr : R e with
        | nil => rw [hr] at hl; simp at hl; omega
        | cons u us =>
          have := h1 0 u (by rw [hr]; rfl)
          simpa [Addr.add] using World.cell?_spot this
      subst hspot
      have hb : b < w.heap.size := hlt (.cell b off) (List.mem_append_left _ (MemPlace.mem_row.2 ⟨0, Nat.mul_pos (by omega) hsz0, by simp⟩))
      have hex' : ∀ i, i < len → ∃ e : α, (∀ j u, (R e)[j]? = some u → w.cell? ⟨b, off + i * sz + j, none⟩ = some u) ∧ B e := by
        intro i hi
        obtain ⟨e, q, z⟩ := hex i hi
        refine ⟨e, fun j u hu => ?_, z⟩
        have := q j u hu
        rw [Addr.add_lit, Addr.add_lit] at this
        exact this
      obtain ⟨f, hf⟩ : ∃ f : Nat → α, ∀ i, i < len → (∀ j u, (R (f i))[j]? = some u → w.cell? ⟨b, off + i * sz + j, none⟩ = some u) ∧ B (f i) := by
        refine ⟨fun i => if hi : i < len then Classical.choose (hex' i hi) else Classical.choice inferInstance, fun i hi => ?_⟩
        have hc := Classical.choose_spec (hex' i hi)
        simp only [hi, dite_true]
        exact hc
      refine ⟨(List.range len).map f, Or.inr ⟨b, off, cap, by simp, hb, by simp; omega, fun i hi => ?_⟩, by simpa using h1'⟩
      simp only [List.length_map, List.length_range] at hi
      simp only [List.getElem_map, List.getElem_range]
      exact hf i hi
end

theorem own_knob : ownKnob Tryd.prog.godebug = none := by kernel_rfl
theorem prog_laid : laidOutB Tryd.prog = true := by kernel_rfl
theorem cells_Str : Tryd.prog.cellsOf 9 = 1 := by kernel_rfl
theorem cells_Int : Tryd.prog.cellsOf 3 = 1 := by kernel_rfl
theorem bytes_Str : Tryd.prog.bytesOf 9 = 16 := by kernel_rfl
end Go.Proofs.YtmcafgmjfgfaeaaDoor

namespace Go.Proofs.YtmcafgmjfgfaeaaDoor
open Go.ChangeShapes Go.WideShapes Go.ChangeAt Go.RowKit Go.Deep
set_option linter.unusedSimpArgs false
set_option linter.unusedVariables false

def Ac.fit (a : Ac) : Prop := a.text.size ≤ 140737488351232
abbrev Acs (w : World) (v : Value) (l : List Ac) : Prop := Elems 6 Ac.cells Ac.fit w v l
theorem cellsAct : Tryd.prog.cellsOf 24 = 6 := by kernel_rfl
theorem bytesAct : Tryd.prog.bytesOf 24 = 56 := by kernel_rfl
theorem list6 {α : Type} {l : List α} (h : l.length = 6) : ∃ a b c d e f, l = [a, b, c, d, e, f] := by
  match l, h with
  | [a, b, c, d, e, f], _ => exact ⟨a, b, c, d, e, f, rfl⟩
section
variable {H : Type} {enc : TypeId × Value → H} {w : World} {base : Nat} {spare : Nat → Bool} {held : Bool}
theorem open_ac {fuel : Nat} {cs : List Value} {x : DataW H × List MemPlace} (hx : DataW.trod enc Tryd.prog w base spare held fuel 24 cs = some x) (hw : (x.1.weights Tryd.prog 24).all (· ≤ reachBytes) = true) : ∃ a : Ac, cs = a.cells ∧ a.fit := by
  obtain ⟨xs, n, _, hxe, hl, hlen, hfl⟩ := DataW.trod_struct Tryd.underlying24 hx
  rw [cellsAct] at hl
  obtain ⟨k0, k1, k2, k3, k4, k5, rfl⟩ := list6 hl
  obtain ⟨y0, y1, y2, y3, y4, y5, hxs⟩ := list6 (l := xs) (by simpa using hlen)
  subst hxs
  have g0 := hfl 0 _ rfl
  have g1 := hfl 1 _ rfl
  have g2 := hfl 2 _ rfl
  have g3 := hfl 3 _ rfl
  have g4 := hfl 4 _ rfl
  have g5 := hfl 5 _ rfl
  simp only [cells_Int, cells_Str, List.drop_zero, List.drop_succ_cons, List.take_succ_cons, List.take_zero, List.getElem?_cons_zero, List.getElem?_cons_succ] at g0 g1 g2 g3 g4 g5
  obtain ⟨i0, e0, _, _⟩ := DataW.trod_int Tryd.underlying3 g0
  obtain ⟨i1, e1, _, _⟩ := DataW.trod_int Tryd.underlying3 g1
  obtain ⟨i2, e2, _, _⟩ := DataW.trod_int Tryd.underlying3 g2
  obtain ⟨i3, e3, _, _⟩ := DataW.trod_int Tryd.underlying3 g3
  obtain ⟨i4, e4, _, _⟩ := DataW.trod_int Tryd.underlying3 g4
  obtain ⟨s5, e5, d5, _⟩ := DataW.trod_string Tryd.underlying9 g5
  have q0 : k0 = .int .i64 i0 := by simpa [cells_Int] using e0
  have q1 : k1 = .int .i64 i1 := by simpa [cells_Int] using e1
  have q2 : k2 = .int .i64 i2 := by simpa [cells_Int] using e2
  have q3 : k3 = .int .i64 i3 := by simpa [cells_Int] using e3
  have q4 : k4 = .int .i64 i4 := by simpa [cells_Int] using e4
  have q5 : k5 = .string s5 := by simpa [cells_Str] using e5
  have hd : x.1 = .agg [y0.1, y1.1, y2.1, y3.1, y4.1, y5.1] := by simpa using congrArg Prod.fst hxe
  rw [hd] at hw
  have w5 := List.all_eq_true.1 hw s5.data.toList.length (by
    simp only [DataW.weights, Tryd.underlying24]
    refine DataW.weights_mem_each (j := 5) (t := 9) (d := y5.1) rfl rfl _ ?_
    rw [d5]; simp [DataW.weights])
  have z5 := of_decide_eq_true w5
  rw [Array.length_toList] at z5
  exact ⟨⟨i0, i1, i2, i3, i4, s5⟩, by rw [q0, q1, q2, q3, q4, q5]; rfl, Nat.le_trans z5 (by unfold reachBytes; decide)⟩
theorem open_acs {v : Value} {d : DataW H} {p : List MemPlace} (hv : v.cells = #[v]) (h : DataW.Trod enc Tryd.prog w base spare held 22 v d p) (hsz : (d.weights Tryd.prog 22).all (· ≤ reachBytes) = true) (hlt : ∀ x ∈ p, x.block < w.heap.size) :
    ∃ l : List Ac, Acs w v l ∧ l.length * 56 ≤ 140737488351232 := by
  haveI : Nonempty Ac := ⟨⟨0, 0, 0, 0, 0, .empty⟩⟩
  refine open_elems Ac.cells Ac.fit Tryd.underlying22 cellsAct (fun _ => rfl) (by decide) bytesAct ?_ hv h hsz hlt
  intro fuel cs x hx hw
  exact open_ac hx hw
set_option maxRecDepth 100000 in
theorem open_act {r : Reach} {b0 : Nat} {v : Value} {d : DataW H} {p : List MemPlace} (hv : Value.okWide Tryd.prog w r b0 24 v) (h : DataW.Trod enc Tryd.prog w base spare held 24 v d p) (hsz : (DataW.weights Tryd.prog 24 d).all (· ≤ reachBytes) = true) :
    ∃ a : Ac, v = .agg a.cells.toArray ∧ a.fit := by
  obtain ⟨cs, rfl, _⟩ := okWide_struct Tryd.underlying24 hv
  obtain ⟨fuel, hf⟩ := h
  obtain ⟨a, hcs, hfit⟩ := open_ac hf hsz
  refine ⟨a, ?_, hfit⟩
  rw [← hcs]
  simp [Value.cells]
end
end Go.Proofs.YtmcafgmjfgfaeaaDoor
