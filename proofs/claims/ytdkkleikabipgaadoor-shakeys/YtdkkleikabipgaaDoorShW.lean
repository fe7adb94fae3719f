/- The document's numbers in 64 bits, and its turns, as the sum's walk wants them. -/
import Derived.Test.YtdkkleikabipgaaDoorShJ
import Derived.Deep.AppendLies
import Derived.Test.YtdkkleikabipgaaDoorShG
namespace Go.Proofs.YtdkkleikabipgaaDoor
open Go.RowKit
set_option linter.unusedSimpArgs false
set_option linter.unusedVariables false

theorem turn_lit (x : Nat) (n : Int) (w : World) (hx : x < 4294967296) (h1 : 2 ≤ n) (h2 : n ≤ 31) :
    Calls Tryd.prog 19 #[.int .i64 x, .int .i64 n] w fun e w' => e = .returned (.int .i64 (rotR x n.toNat)) ∧ ∃ m, w' = w.drewN m := by
  obtain ⟨m, rfl⟩ := Int.eq_ofNat_of_zero_le (show 0 ≤ n by omega)
  exact turn_calls x m w hx (by omega) (by omega)
theorem lt63 {a : Nat} (h : a < 4294967296) : a < 9223372036854775808 := by omega
theorem sg0_i64 (y : Nat) (h : y < 4294967296) : bits .xor .i64 (bits .xor .i64 (rotR y 7 : Int) (rotR y 18 : Int)) ((y : Int) / 8) = (sg0 y : Int) := by
  have e : (y : Int) / 8 = ((y / 8 : Nat) : Int) := by omega
  rw [e, i64_xor _ _ (lt63 (rotR_lt _ _)) (lt63 (rotR_lt _ _)), i64_xor _ _ (lt63 (xor_lt _ _ (rotR_lt _ _) (rotR_lt _ _))) (by omega)]
  rfl
theorem sg1_i64 (y : Nat) (h : y < 4294967296) : bits .xor .i64 (bits .xor .i64 (rotR y 17 : Int) (rotR y 19 : Int)) ((y : Int) / 1024) = (sg1 y : Int) := by
  have e : (y : Int) / 1024 = ((y / 1024 : Nat) : Int) := by omega
  rw [e, i64_xor _ _ (lt63 (rotR_lt _ _)) (lt63 (rotR_lt _ _)), i64_xor _ _ (lt63 (xor_lt _ _ (rotR_lt _ _) (rotR_lt _ _))) (by omega)]
  rfl
theorem bs1_i64 (y : Nat) : bits .xor .i64 (bits .xor .i64 (rotR y 6 : Int) (rotR y 11 : Int)) (rotR y 25 : Int) = (bs1 y : Int) := by
  rw [i64_xor _ _ (lt63 (rotR_lt _ _)) (lt63 (rotR_lt _ _)), i64_xor _ _ (lt63 (xor_lt _ _ (rotR_lt _ _) (rotR_lt _ _))) (lt63 (rotR_lt _ _))]
  rfl
theorem bs0_i64 (y : Nat) : bits .xor .i64 (bits .xor .i64 (rotR y 2 : Int) (rotR y 13 : Int)) (rotR y 22 : Int) = (bs0 y : Int) := by
  rw [i64_xor _ _ (lt63 (rotR_lt _ _)) (lt63 (rotR_lt _ _)), i64_xor _ _ (lt63 (xor_lt _ _ (rotR_lt _ _) (rotR_lt _ _))) (lt63 (rotR_lt _ _))]
  rfl
theorem mjr_i64 (a b c : Nat) (ha : a < 4294967296) (hb : b < 4294967296) (hc : c < 4294967296) :
    bits .or .i64 (bits .or .i64 (bits .and .i64 (a : Int) (b : Int)) (bits .and .i64 (a : Int) (c : Int))) (bits .and .i64 (b : Int) (c : Int)) = (mjr a b c : Int) := by
  rw [i64_and _ _ (lt63 ha) (lt63 hb), i64_and _ _ (lt63 ha) (lt63 hc), i64_and _ _ (lt63 hb) (lt63 hc), i64_or _ _ (lt63 (and_lt _ _ hb)) (lt63 (and_lt _ _ hc)), i64_or _ _ (lt63 (or_lt _ _ (and_lt _ _ hb) (and_lt _ _ hc))) (lt63 (and_lt _ _ hc))]
  rfl
theorem chs_i64 (e f g : Nat) (he : e < 4294967296) (hf : f < 4294967296) (hg : g < 4294967296) :
    bits .or .i64 (bits .and .i64 (e : Int) (f : Int)) (bits .and .i64 (4294967295 - (e : Int)) (g : Int)) = (chs e f g : Int) := by
  have e1 : 4294967295 - (e : Int) = ((4294967295 - e : Nat) : Int) := by omega
  rw [e1, i64_and _ _ (lt63 he) (lt63 hf), i64_and _ _ (by omega) (lt63 hg), i64_or _ _ (lt63 (and_lt _ _ hf)) (lt63 (and_lt _ _ hg))]
  rfl
def inC (l : List Nat) : List Value := l.map fun x : Nat => Value.int .i64 (x : Int)
theorem inC_length (l : List Nat) : (inC l).length = l.length := by simp [inC]
theorem inC_get (l : List Nat) (j : Nat) (h : j < l.length) : (inC l)[j]? = some (.int .i64 ((l.getD j 0 : Nat) : Int)) := by
  simp [inC, h, List.getD_eq_getElem?_getD]
theorem inC_snoc (l : List Nat) (x : Nat) : inC (l ++ [x]) = inC l ++ [.int .i64 (x : Int)] := by simp [inC]
theorem own_cell {w : World} {base n g cap : Nat} {e : TypeId} {xs : List Value} (h : w.ownsRow base e 1 (.slice (some ⟨g, 0, none⟩) n cap) n xs) {j : Nat} {u : Value} (hj : xs[j]? = some u) : w.cell? ⟨g, j, none⟩ = some u := by
  have := h.cells rfl j u hj
  rwa [Addr.add_mid, Nat.zero_add] at this
theorem pwords_get (l : List UInt8) (k j : Nat) (h : j < k) : (pwords l k)[j]? = some (.int .i64 (wordAt (padL l) j : Int)) := by
  simp [pwords, h]
theorem own_of_heap {w w' : World} {base n : Nat} {e : TypeId} {v : Value} {xs : List Value} (h : w'.heap = w.heap) (ho : w.ownsRow base e 1 v n xs) : w'.ownsRow base e 1 v n xs := by
  obtain ⟨h1, h2⟩ := ho
  refine ⟨h1, h2.imp id fun ⟨g, cap, cur, e1, e2, e3, e4⟩ => ⟨g, cap, cur, e1, e2, by rw [h]; exact e3, e4⟩⟩
theorem news_alloc {X : World} {B : Nat} {cs : Array Value} {t : TypeId} (h : X.heap.size = B) : ∀ j u, cs.toList[j]? = some u → (X.alloc (.cells cs t)).cell? ((⟨B, 0, none⟩ : Addr).add j) = some u :=
  World.news_of_block (w := X.alloc (.cells cs t)) (fr := (0, 0)) (by subst h; exact heap_alloc_new X _)
theorem heap_drewN (w : World) (m : Nat) : (w.drewN m).heap = w.heap := by
  induction m with
  | zero => rfl
  | succ m ih => exact ih
theorem wrap_and255 (z : Int) (n : Nat) (hz : z = (n : Int)) (h : n < 9223372036854775808) : IntKind.u8.wrap (bits .and .i64 z 255) = IntKind.u8.wrap z := by
  subst hz
  have h1 := i64_and n 255 h (by decide)
  have e : n &&& 255 = n % 256 := Nat.and_two_pow_sub_one_eq_mod n 8
  rw [e] at h1
  have h2 : bits .and .i64 (n : Int) 255 = ((n % 256 : Nat) : Int) := h1
  rw [h2, wu8, wu8]
  omega
theorem mixI_set (u v : List Nat) (k : Nat) (hu : u.length = 8) (hv : v.length = 8) (hk : k < 8) : (inA (mixL u v k)).setIfInBounds k (.int .i64 ((u.getD k 0 : Nat) : Int)) = inA (mixL u v (k + 1)) := by
  have h1 : u.take (k + 1) = u.take k ++ [u.getD k 0] := by
    rw [List.take_succ_eq_append_getElem (by omega), List.getD_eq_getElem?_getD, List.getElem?_eq_getElem (by omega)]; rfl
  have h2 : v.drop k = v.getD k 0 :: v.drop (k + 1) := by
    rw [List.drop_eq_getElem_cons (by omega), List.getD_eq_getElem?_getD, List.getElem?_eq_getElem (by omega)]; rfl
  unfold inA mixL
  rw [h1, h2, List.append_assoc, List.singleton_append]
  simp only [List.map_append, List.map_cons, List.setIfInBounds_toArray]
  rw [List.set_append_right _ _ (by simp; omega)]
  simp [hu, Nat.min_eq_left (Nat.le_of_lt hk)]
theorem stL_lt (s : St) (h : s.fits) (k : Nat) (hk : k < 8) : (stL s).getD k 0 < 4294967296 := by
  obtain ⟨h1, h2, h3, h4, h5, h6, h7, h8⟩ := h
  match k, hk with
  | 0, _ => exact h1
  | 1, _ => exact h2
  | 2, _ => exact h3
  | 3, _ => exact h4
  | 4, _ => exact h5
  | 5, _ => exact h6
  | 6, _ => exact h7
  | 7, _ => exact h8

/-- One number appended to a row of one's own, as a step of a region: the row's cells so far stay where they were. -/
theorem step_app1 {ops : Array Oper} {o : Oper} {a : Act} {w : World} {K : Act → World → Prop} {Q : Exit → Act → World → Prop} {E : Prop} (hgd : o.guard = none) (s x : Operand)
    (ho : o.op = .call { callee := .builtin .append, args := #[s, x], argTypes := #[43, 43] })
    (base g n cap : Nat) (xs : List Value) (hown : w.ownsRow base 3 1 (.slice (some ⟨g, 0, none⟩) n cap) n xs) (hs : a.eval s = .slice (some ⟨g, 0, none⟩) n cap)
    (ad : Addr) (c : Nat) (u : Value) (hx : a.eval x = .slice (some ad) 1 c) (hu : w.cell? ad = some u) (h1 : u.oneCell' = true) (hn : n ≤ 100000000000) (hbase : base ≤ w.heap.size)
    (h : ∀ g' cap' w', w'.ownsRow base 3 1 (.slice (some ⟨g', 0, none⟩) (n + 1) cap') (n + 1) (xs ++ [u]) → Below base w w' → (∀ j, j < n → w'.cell? ⟨g, j, none⟩ = w.cell? ⟨g, j, none⟩) →
      K (a.put o.dst (.slice (some ⟨g', 0, none⟩) (n + 1) cap')) w') :
    if Region.wanted o (yielded ops a.tmps) = true then Oper.wp Tryd.prog o a w K Q else E := by
  rw [if_pos (by simp [Region.wanted, hgd])]
  obtain ⟨i0, hi, hz0, hz1, hz2⟩ := info_parts infoInt
  obtain ⟨hl, h2⟩ := id hown
  rw [Nat.mul_one] at hl
  rcases h2 with ⟨e, _⟩ | ⟨g', cap', cur, e, hg, hc, hcap, hcm, hsz, hxs⟩
  · cases e
  simp only [Value.slice.injEq, Option.some.injEq, Addr.mk.injEq, and_true, true_and] at e
  obtain ⟨rfl, rfl⟩ := e
  rw [Nat.mul_one] at hsz hxs
  have hnews : ∀ j v, [u][j]? = some v → w.cell? (ad.add j) = some v := fun j v hj => by
    cases j with
    | zero => simp at hj; subst hj; simpa [Addr.add] using hu
    | succ j => simp at hj
  by_cases hroom : n + 1 ≤ cap
  · have hr := run_append_room_cells (P := Tryd.prog) w 43 o.type 3 i0 Tryd.underlying43 hi g 0 n cap ad 1 c [u] (by rw [hz1]; rfl) hnews (by intro v hv; simp at hv; subst hv; exact h1) hroom
      (by intro j hj; have hj0 : j = 0 := by simpa using hj
          subst hj0; rw [hz1, Nat.mul_one, Nat.zero_add, Nat.add_zero, cell_of_row w g n cur _ (0, 0) hc, Array.getElem?_eq_getElem (by omega)]; rfl)
      (by intro j hj; exact frozen_of_row w g _ cur _ hc)
    rw [hz1, Nat.mul_one, Nat.zero_add] at hr
    unfold Oper.wp execOp
    simp only [ho, resolve, invoke, builtin, Sem.run_bind, Sem.run_pure, Result.andThen_ok, List.map_toArray, List.map_cons, List.map_nil, hs, hx, hr]
    refine h g cap (w.setCell ⟨g, n, none⟩ u) ⟨by simp; omega, Or.inr ⟨g, cap, cur.setIfInBounds n u, rfl, hg, heap_setCell_same w g n cur _ u hc, hroom, hcm, by simp [hsz], ?_⟩⟩ ((Below.refl _ _).setCell hg _) (fun j hj => ?_)
    · rw [Nat.mul_one, Array.toList_setIfInBounds, List.take_succ_eq_append_getElem (by simp; omega), List.take_set, List.set_eq_of_length_le (by simp; omega), hxs]
      simp
    · exact World.cell?_setCell_other _ _ _ _ (by intro e; injection e with e1 e2; omega)
  · obtain ⟨v', w', hr, hown', hgrow⟩ := run_append_arg_grows (P := Tryd.prog) w 43 o.type 3 i0 (.int .i64 0) 1 8 Tryd.underlying43 hi hz0 hz1 hz2 rfl (by decide) ⟨g, 0, none⟩ n cap xs (by omega) (fun j v hj => by rw [Addr.add_mid, Nat.zero_add]; exact own_cell hown hj) ad 1 c [u] rfl hnews (by omega) (by unfold maxLen; omega) (by omega)
    obtain ⟨g2, cap2, rfl, hg2, hg3⟩ := hown'.form (by omega)
    unfold Oper.wp execOp
    simp only [ho, resolve, invoke, builtin, Sem.run_bind, Sem.run_pure, Result.andThen_ok, List.map_toArray, List.map_cons, List.map_nil, hs, hx, hr]
    have hglt : g < w.heap.size := by
      rcases Nat.lt_or_ge g w.heap.size with h | h
      · exact h
      · rw [Array.getElem?_eq_none h] at hc; cases hc
    refine h g2 cap2 w' ⟨hown'.1, hown'.2.imp id fun ⟨g', cap', cur', e1, e2, e3⟩ => ⟨g', cap', cur', e1, by omega, e3⟩⟩ ((Below.refl _ _).grown hgrow hbase (fun k hk => by cases hk)) (fun j hj => ?_)
    exact World.cell?_of_block (hgrow.block g hglt (by simp))
end Go.Proofs.YtdkkleikabipgaaDoor
