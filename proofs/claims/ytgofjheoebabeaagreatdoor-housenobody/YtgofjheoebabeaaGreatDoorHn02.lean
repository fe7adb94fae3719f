/- A slice whose elements are read by a given law, that comes in as an argument: opened, with the sizes of what it holds. -/
import Derived.Test.YtgofjheoebabeaaGreatDoorRows
import Derived.ProofKit
import Derived.OpenShut
import Derived.Deep.Slices
import Derived.Deep.Strs
import Derived.SizedLaws
import Derived.Test.YtgofjheoebabeaaGreatDoorHn01
import Derived.Handy
import Derived.WalkLawsBesides
import Derived.Deep.QuietTactic
import Derived.BigQuiet
import Derived.Lib.Strings
import Derived.Lib.Walk
import Derived.Lib.BufferWrite
import Derived.Lib.UnsafeStr
import Derived.Lib.Hide
import Derived.Laws.MakeOwn
import Derived.Deep.RegionHeldLaw
import Derived.Deep.RegionHeld3
import Derived.WalkKit
namespace Go.Proofs.YtgofjheoebabeaaGreatDoor
open Go.ChangeShapes Go.WideShapes Go.ChangeAt Go.RowKit Go.Deep
set_option linter.unusedVariables false
set_option linter.unusedSimpArgs false

/-- A slice's elements in memory: sz cells each, as R says, with B of each. -/
def Elems {α : Type} (sz : Nat) (R : α → List Value) (B : α → Prop) (w : World) (v : Value) (l : List α) : Prop :=
  ((∃ p c, v = .slice p 0 c) ∧ l = []) ∨
  ∃ b off cap, v = .slice (some ⟨b, off, none⟩) l.length cap ∧ b < w.heap.size ∧ l.length ≤ cap ∧ ∀ i (h : i < l.length), (∀ j u, (R l[i])[j]? = some u → w.cell? ⟨b, off + i * sz + j, none⟩ = some u) ∧ B l[i]
theorem Elems.below {α : Type} {sz : Nat} {R : α → List Value} {B : α → Prop} {w w' : World} {v : Value} {l : List α} (h : Elems sz R B w v l) (hb : Below w.heap.size w w') : Elems sz R B w' v l := by
  rcases h with h | ⟨b, off, cap, hv, hl, hlc, hc⟩
  · exact Or.inl h
  · exact Or.inr ⟨b, off, cap, hv, Nat.lt_of_lt_of_le hl hb.size, hlc, fun i hi => ⟨fun j u hu => (hb.cell (p := ⟨b, off + i * sz + j, none⟩) hl).trans ((hc i hi).1 j u hu), (hc i hi).2⟩⟩

/-- The same, with the empty one among them. -/
theorem Elems.any {α : Type} {sz : Nat} {R : α → List Value} {B : α → Prop} {w : World} {v : Value} {l : List α} (h : Elems sz R B w v l) :
    ∃ a cap, v = .slice a l.length cap ∧ ∀ i (h : i < l.length), ∃ g off, a = some ⟨g, off, none⟩ ∧ l.length ≤ cap ∧ g < w.heap.size ∧ (∀ j u, (R l[i])[j]? = some u → w.cell? ⟨g, off + i * sz + j, none⟩ = some u) ∧ B l[i] := by
  rcases h with ⟨⟨a, c, rfl⟩, rfl⟩ | ⟨b, off, cap, rfl, hl, hlc, hc⟩
  · exact ⟨a, c, rfl, fun i hi => absurd hi (Nat.not_lt_zero _)⟩
  · exact ⟨some ⟨b, off, none⟩, cap, rfl, fun i hi => ⟨b, off, rfl, hlc, hl, (hc i hi).1, (hc i hi).2⟩⟩

section
variable {H : Type} {enc : TypeId × Value → H} {w : World} {base : Nat} {spare : Nat → Bool} {held : Bool}

theorem weights_all_mem {P : Program} {e : TypeId} : ∀ (ds : List (DataW H)) (d : DataW H), d ∈ ds → ∀ n ∈ d.weights P e, n ∈ DataW.weightsAll P e ds
  | [], d, h, _, _ => by cases h
  | x :: r, d, h, n, hn => by
    simp only [DataW.weightsAll, List.mem_append]
    rcases List.mem_cons.1 h with rfl | h
    · exact Or.inl hn
    · exact Or.inr (weights_all_mem r d h n hn)

theorem open_elems {α : Type} [Nonempty α] {P : Program} {SL E : TypeId} {sz by_ : Nat} (R : α → List Value) (B : α → Prop) (hu : P.underlying SL = some (.slice E)) (hc : P.cellsOf E = sz) (hR : ∀ a, (R a).length = sz) (hsz0 : 0 < sz) (hby : P.bytesOf E = by_)
    (hel : ∀ fuel cs x, DataW.trod enc P w base spare held fuel E cs = some x → (x.1.weights P E).all (· ≤ reachBytes) = true → ∃ a, cs = R a ∧ B a)
    {v : Value} {d : DataW H} {p : List MemPlace} (hv : v.cells = #[v]) (h : DataW.Trod enc P w base spare held SL v d p) (hsz : (d.weights P SL).all (· ≤ reachBytes) = true) (hlt : ∀ x ∈ p, x.block < w.heap.size) :
    ∃ l : List α, Elems sz R B w v l ∧ l.length * by_ ≤ 140737488351232 := by
  obtain ⟨fuel, hf⟩ := h
  rw [hv] at hf
  rcases open_slice hu hf with ⟨hcs, _⟩ | ⟨a, len, cap, m, n, D, Pl, hcs, _, hlc, hcm, hm, hx, hcell⟩
  · simp only [List.cons.injEq, and_true] at hcs
    exact ⟨[], Or.inl ⟨⟨_, _, hcs⟩, rfl⟩, by simp⟩
  · simp only [List.cons.injEq, and_true] at hcs
    subst hcs
    have hlm : len ≤ m := by rw [hm]; split <;> omega
    simp only [Prod.mk.injEq] at hx
    obtain ⟨rfl, rfl⟩ := hx
    rw [hc] at hcell hlt
    simp only [DataW.weights, hu, List.all_cons, List.all_append, Bool.and_eq_true, decide_eq_true_eq, hby] at hsz
    obtain ⟨h1, h2, h3⟩ := hsz
    have h1' : len * by_ ≤ 140737488351232 := by
      simp only [List.length_map, List.length_range, reachBytes] at h1
      have := Nat.mul_le_mul_right by_ (show len ≤ len + (m - len) by omega)
      omega
    have hex : ∀ i, i < len → ∃ e : α, (∀ j u, (R e)[j]? = some u → w.cell? ((a.add (i * sz)).add j) = some u) ∧ B e := by
      intro i hi
      obtain ⟨cs', hcc, ht⟩ := hcell i (by omega)
      have hmem : D i ∈ (List.range len).map D := List.mem_map.2 ⟨i, List.mem_range.2 hi, rfl⟩
      obtain ⟨e, rfl, hB⟩ := hel n cs' _ ht (List.all_eq_true.2 fun k hk => List.all_eq_true.1 h2 k (weights_all_mem _ _ hmem k hk))
      obtain ⟨_, _, hq⟩ := World.cells?_some hcc
      refine ⟨e, fun j u hj => ?_, hB⟩
      have hjl : j < sz := by
        have := (List.getElem?_eq_some_iff.1 hj).1
        rw [hR] at this
        exact this
      have := hq j hjl
      rw [← hj]
      exact this
    rcases Nat.eq_zero_or_pos len with h0 | h0
    · subst h0
      exact ⟨[], Or.inl ⟨⟨_, _, rfl⟩, rfl⟩, by simp⟩
    · obtain ⟨b, off, spot⟩ := a
      have hspot : spot = none := by
        obtain ⟨e, h1, _⟩ := hex 0 h0
        have hl := hR e
        cases hr : R e with
        | nil => rw [hr] at hl; simp at hl; omega
        | cons u us =>
          have := h1 0 u (by rw [hr]; rfl)
          simpa [Addr.add] using World.cell?_spot this
      subst hspot
      have hb : b < w.heap.size := hlt (.cell b off) (List.mem_append_left _ (MemPlace.mem_row.2 ⟨0, Nat.mul_pos (by omega) hsz0, by simp⟩))
      have hex' : ∀ i, i < len → ∃ e : α, (∀ j u, (R e)[j]? = some u → w.cell? ⟨b, off + i * sz + j, none⟩ = some u) ∧ B e := by
        intro i hi
        obtain ⟨e, q, z⟩ := hex i hi
        refine ⟨e, fun j u hu => ?_, z⟩
        have := q j u hu
        rw [Addr.add_lit, Addr.add_lit] at this
        exact this
      obtain ⟨f, hf⟩ : ∃ f : Nat → α, ∀ i, i < len → (∀ j u, (R (f i))[j]? = some u → w.cell? ⟨b, off + i * sz + j, none⟩ = some u) ∧ B (f i) := by
        refine ⟨fun i => if hi : i < len then Classical.choose (hex' i hi) else Classical.choice inferInstance, fun i hi => ?_⟩
        have hc := Classical.choose_spec (hex' i hi)
        simp only [hi, dite_true]
        exact hc
      refine ⟨(List.range len).map f, Or.inr ⟨b, off, cap, by simp, hb, by simp; omega, fun i hi => ?_⟩, by simpa using h1'⟩
      simp only [List.length_map, List.length_range] at hi
      simp only [List.getElem_map, List.getElem_range]
      exact hf i hi
end

theorem own_knob : ownKnob Tryz.prog.godebug = none := by kernel_rfl
theorem prog_laid : laidOutB Tryz.prog = true := by kernel_rfl
theorem cells_Str : Tryz.prog.cellsOf 9 = 1 := by kernel_rfl
theorem cells_Int : Tryz.prog.cellsOf 3 = 1 := by kernel_rfl
theorem bytes_Str : Tryz.prog.bytesOf 9 = 16 := by kernel_rfl
end Go.Proofs.YtgofjheoebabeaaGreatDoor

namespace Go.Proofs.YtgofjheoebabeaaGreatDoor
open Go.RowKit
set_option linter.unusedSimpArgs false
set_option linter.unusedVariables false

theorem infoByte : (Tryz.prog.info? 5).map (fun i => (i.zero, i.size, i.bytes)) = some (some (.int .u8 0), 1, 1) := by kernel_rfl

set_option maxHeartbeats 4000000 in
set_option maxRecDepth 100000 in
theorem stringsliteClone_calls (s : ByteArray) (w : World) (hlim : s.size ≤ 281474976710656) :
    Calls Tryz.prog 66 #[.string s] w fun e w' => e = .returned (.string s) ∧ Below w.heap.size w w' := by
  by_cases h0 : s.size = 0
  · have hs : s = ⟨#[]⟩ := by
      apply ByteArray.ext
      exact Array.eq_empty_of_size_eq_zero h0
    subst hs
    go_enter Tryz.func66, Tryz.ntmps66
    go_wp2
    go_ret
    exact ⟨rfl, Below.refl _ _⟩
  · obtain ⟨i0, hi, hz0, hz1, hz2⟩ := info_parts infoByte
    have hinfo : (Tryz.prog.info? 5).map (·.size) = some 1 := by rw [hi]; simp [hz1]
    have hco : Tryz.prog.cellsOf 5 = 1 := by simp [Program.cellsOf, hi, hz1]
    obtain ⟨M, hM⟩ : ∃ M, M = madeCells (Value.int .u8 0).cells (((s.size : Nat) : Int).toNat * i0.size) := ⟨_, rfl⟩
    have hMs : M.size = s.size := by rw [hM, size_madeCells, hz1]; simp
    have hmk : ∀ W : World, (Instr.makeSlice 96 (.int .i64 (s.size : Int)) (.int .i64 (s.size : Int))).run Tryz.prog W = .ok (.slice (some ⟨W.heap.size, 0, none⟩) s.size s.size) (W.alloc (.cells M 5)) := fun W => by
      have h := run_make (P := Tryz.prog) W 96 5 i0 (.int .u8 0) Tryz.underlying96 hi hz0 .i64 .i64 (s.size : Int) (s.size : Int) (by omega) (by omega) (by rw [hz2]; omega) (by omega)
      rw [← hM] at h
      simpa using h
    clear hM
    have hcp := Lib.run_copy_row_string (P := Tryz.prog) (w.alloc (.cells M 5)) 96 9 3 5 w.heap.size 0 s.size s.size s M 5 Tryz.underlying96 hinfo (heap_alloc_new w _) (Nat.le_refl _) (by omega)
    obtain ⟨Y, hY⟩ : ∃ Y, Y = (M.toList.take 0 ++ Lib.byteCells s.data.toList ++ M.toList.drop (0 + s.size)).toArray := ⟨_, rfl⟩
    rw [← hY] at hcp
    have hYl : Y.toList = Lib.byteCells s.data.toList := by
      rw [hY, List.toList_toArray, List.take_zero, List.nil_append, List.drop_of_length_le (by rw [Array.length_toList]; omega), List.append_nil]
    have hYs : Y.size = s.size := by rw [← Array.length_toList, hYl, Lib.byteCells_length, ← Lib.size_eq]
    have hgY : ((w.alloc (.cells M 5)).setRow w.heap.size Y).heap[w.heap.size]? = some (.cells Y 5 (0, 0)) := setRow_heap _ _ M _ 5 (0, 0) (heap_alloc_new w _)
    have hne : s.data.toList ≠ [] := fun e => h0 (by rw [Lib.size_eq, e]; rfl)
    have hUS := Lib.run_unsafeString_row (P := Tryz.prog) ((w.alloc (.cells M 5)).setRow w.heap.size Y) 120 3 9 5 Tryz.underlying120 hco w.heap.size Y.size (by unfold World.shape?; rw [hgY]) s.data.toList hne (by rw [← Lib.size_eq]; omega) (by rw [← Lib.size_eq]; omega)
      (fun j x hx => Lib.cells_of_row hgY Y.size j _ (by rw [List.take_of_length_le (by rw [Array.length_toList]; exact Nat.le_refl _), hYl]; simp [Lib.byteCells, hx]))
    rw [← Lib.size_eq] at hUS
    clear hY
    go_enter Tryz.func66, Tryz.ntmps66
    go_wp2
    go_ret
    have hb1 : Below w.heap.size w (w.alloc (.cells M 5)) := (Below.refl _ w).alloc (Nat.le_refl _) _
    have hb2 : Below w.heap.size (w.alloc (.cells M 5)) ((w.alloc (.cells M 5)).setRow w.heap.size Y) := ⟨rfl, rfl, rfl, by simp, fun k hk => setRow_other _ _ _ _ (by omega)⟩
    exact ⟨rfl, Lib.below_freeze (hb1.trans hb2) (p := ⟨w.heap.size, 0, none⟩) (Nat.le_refl _) _⟩

theorem clone_calls (s : ByteArray) (w : World) (hlim : s.size ≤ 281474976710656) :
    Calls Tryz.prog 36 #[.string s] w fun e w' => e = .returned (.string s) ∧ Below w.heap.size w w' := by
  go_enter Tryz.func36, Tryz.ntmps36
  go_wp2_with fail
  refine (stringsliteClone_calls s _ hlim).mono ?_
  rintro e w1 ⟨rfl, hb⟩
  go_wp2
  go_ret
  exact ⟨rfl, hb⟩
end Go.Proofs.YtgofjheoebabeaaGreatDoor

namespace Go.Proofs.YtgofjheoebabeaaGreatDoor
open Go.RowKit
set_option linter.unusedSimpArgs false
set_option linter.unusedVariables false

/-! A store of a whole row as the next step of a held region. -/
theorem step_ifC {P : Program} {ops : Array Oper} {o : Oper} {a : Act} {w : World} {K : Act → World → Prop} {Q : Exit → Act → World → Prop} {E : Prop} (hg : o.guard = none) (h : Oper.wp P o a w K Q) :
    if Region.wanted o (yielded ops a.tmps) = true then Oper.wp P o a w K Q else E := by
  have hw : Region.wanted o (yielded ops a.tmps) = true := by simp [Region.wanted, hg]
  rw [if_pos hw]; exact h

theorem wp_store_rowN {P : Program} {type : TypeId} {pos : String} {after : Array Edge} {guard : Option (Nat × Bool)} {a : Act} {w : World} {K : Act → World → Prop} {Q : Exit → Act → World → Prop} {ty : TypeId} {x y : Operand} (g : Nat) (cells : Array Value) (hx : a.eval x = .pointer (some ⟨g, 0, none⟩)) (hy : a.eval y = .agg cells) (t : TypeId) (old : Array Value) (hg : w.heap[g]? = some (.cells old t (0, 0))) (hi : (P.info? ty).map (·.size) = some cells.size) (hold : old.size = cells.size) (h1 : cells.all (·.oneCell') = true) (h : K a (w.setRow g cells)) : Oper.wp P { dst := none, op := .store ty x y, type := type, pos := pos, after := after, guard := guard } a w K Q :=
  wp_store_row ty x y rfl g cells hx hy t old hg hi hold h1 h
theorem readyH_rowC {P : Program} {md : Region.Mode} {ops : Array Oper} {Q : Exit → Act → World → Prop} {S : World → Prop} {fuel : Nat} {listed : Array Bool} {a : Act} {w : World} (i : Nat) {o : Oper} (ho : ops[i]? = some o) {ty : TypeId} {x y : Operand} (hop : o.op = .store ty x y) (hd : o.dst = none) (hgd : o.guard = none) (g : Nat) (cells : Array Value) (hx : a.eval x = .pointer (some ⟨g, 0, none⟩)) (hy : a.eval y = .agg cells) (t : TypeId) (old : Array Value) (hg : w.heap[g]? = some (.cells old t (0, 0))) (hi : (P.info? ty).map (·.size) = some cells.size) (hold : old.size = cells.size) (h1 : cells.all (·.oneCell') = true) (hS : S (w.setRow g cells)) (h : S (w.setRow g cells) → wpAnyH P md ops Q S fuel (listed.setIfInBounds i true) a (w.setRow g cells)) : AllReadyH P md ops Q S fuel listed a w [i] := by
  obtain ⟨dst, op, type, pos, after, guard⟩ := o
  simp only at hop hd hgd
  subst hop hd hgd
  exact AllReadyH.cons ho (fun K hK => step_ifC rfl (wp_store_rowN g cells hx hy t old hg hi hold h1 (hK.out _ _ hS h))) AllReadyH.nil
end Go.Proofs.YtgofjheoebabeaaGreatDoor

namespace Go.Proofs.YtgofjheoebabeaaGreatDoor
open Go.RowKit
set_option linter.unusedSimpArgs false
set_option linter.unusedVariables false

theorem pow128 (k : Nat) : (128 : Nat) ^ k = 2 ^ (7 * k) := by
  rw [Nat.pow_mul]

theorem wraps_i64 (n : Int) (h₀ : 0 ≤ n) (h₁ : n < 2 ^ 63) : IntKind.i64.wrap n = n := by rw [IntKind.wrap_i64]; omega

theorem and127 (c : Nat) (hc : c < 256) : bits .and .u8 (c : Int) 127 = ((c % 128 : Nat) : Int) := by
  have h := bits_mask .u8 8 (by decide) wraps_u8 7 (by decide) (c : Int) (by omega) (by omega)
  have e : (2 : Int) ^ 7 - 1 = 127 := by decide
  rw [e] at h
  rw [h]; simp

theorem and127i (n : Nat) (hn : n < 9223372036854775808) : bits .and .i64 (n : Int) 127 = ((n % 128 : Nat) : Int) := by
  have h := bits_mask .i64 63 (by decide) wraps_i64 7 (by decide) (n : Int) (by omega) (by omega)
  have e : (2 : Int) ^ 7 - 1 = 127 := by decide
  rw [e] at h
  rw [h]; simp

theorem or128 (c : Nat) (hc : c < 128) : bits .or .u8 (c : Int) 128 = ((128 + c : Nat) : Int) := by
  have h := u8_or_nat c 128 (by omega) (by omega)
  have e : c ||| 128 = 128 + c := by
    rw [Nat.or_comm]; exact nat_join 7 128 c (by decide) hc
  rw [e] at h
  exact h

theorem small128 (c k : Nat) (hk : k ≤ 7) (hc : c < 128) : c * 128 ^ k < 72057594037927936 := by
  have h1 : (128 : Nat) ^ k ≤ 128 ^ 7 := Nat.pow_le_pow_right (by decide) hk
  have h2 : c * 128 ^ k ≤ 127 * 128 ^ 7 := Nat.mul_le_mul (by omega) h1
  have e : (127 : Nat) * 128 ^ 7 < 72057594037927936 := by decide
  omega

theorem or7 (m c k : Nat) (hk : k ≤ 7) (hm : m < 128 ^ k) (hc : c < 256) :
    bits .or .i64 (m : Int) (wrap64 (wrap64 (bits .and .u8 (c : Int) 127) * 2 ^ (7 * k))) = ((m + c % 128 * 128 ^ k : Nat) : Int) := by
  have hs := small128 (c % 128) k hk (by omega)
  have hm7 : m < 72057594037927936 := by
    have h1 : (128 : Nat) ^ k ≤ 128 ^ 7 := Nat.pow_le_pow_right (by decide) hk
    have e : (128 : Nat) ^ 7 < 72057594037927936 := by decide
    omega
  rw [and127 c hc]
  have e1 : wrap64 ((c % 128 : Nat) : Int) = ((c % 128 : Nat) : Int) := by unfold wrap64; omega
  rw [e1]
  have e2 : ((c % 128 : Nat) : Int) * 2 ^ (7 * k) = ((c % 128 * 128 ^ k : Nat) : Int) := by
    rw [pow128]; simp
  rw [e2]
  have e3 : wrap64 ((c % 128 * 128 ^ k : Nat) : Int) = ((c % 128 * 128 ^ k : Nat) : Int) := by unfold wrap64; omega
  rw [e3, (bits_nat .i64 63 (by decide) wraps_i64 m _ (by omega) (by omega)).2, Nat.or_comm]
  have hmod : (c % 128 * 128 ^ k) % 2 ^ (7 * k) = 0 := by rw [pow128]; exact Nat.mul_mod_left _ _
  rw [nat_join (7 * k) _ m hmod (by rw [← pow128]; exact hm)]
  congr 1; omega

theorem lt128 (m c k : Nat) (hm : m < 128 ^ k) : m + c % 128 * 128 ^ k < 128 ^ (k + 1) := by
  have h : c % 128 ≤ 127 := by omega
  have h2 : c % 128 * 128 ^ k ≤ 127 * 128 ^ k := Nat.mul_le_mul_right _ h
  rw [Nat.pow_succ]; omega
end Go.Proofs.YtgofjheoebabeaaGreatDoor
