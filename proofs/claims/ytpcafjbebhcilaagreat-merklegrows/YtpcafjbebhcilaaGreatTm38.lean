/- Rows of one's own into which a value is laid, or out of which one is taken: copy, append, clear. -/
import Derived.Test.YtpcafjbebhcilaaGreatTm12
import Derived.Laws.CopyRow
import Derived.Lib.AppendZerosOnto
import Derived.Lib.Overlaps
import Derived.Laws.AppendOwn
import Derived.Laws.OwnMore
namespace Go.Proofs.YtpcafjbebhcilaaGreat
open Go.RowKit
set_option linter.unusedSimpArgs false
set_option linter.unusedVariables false

theorem run_copy_rowZ {P : Program} (w : World) (dT sT ty elem : TypeId) (z g o dLen dCap : Nat) (a : Addr) (sLen sCap n : Nat) (cur : Array Value) (t : TypeId) (cs : List Value)
    (hu : P.underlying dT = some (.slice elem)) (hs : (P.info? elem).map (·.size) = some z)
    (hg : w.heap[g]? = some (.cells cur t (0, 0))) (hmin : Nat.min sLen dLen = n) (hn : cs.length = n * z)
    (hsrc : ∀ j v, cs[j]? = some v → w.cell? (a.add j) = some v) (hfit : o + cs.length ≤ cur.size) (h1 : ∀ v ∈ cs, v.oneCell' = true) :
    (Builtin.copy_ #[dT, sT] ty #[.slice (some ⟨g, o, none⟩) dLen dCap, .slice (some a) sLen sCap]).run P w =
      .ok (goInt n) (w.setRow g (cur.toList.take o ++ cs ++ cur.toList.drop (o + cs.length)).toArray) := by
  have hl := run_loadCells_list (P := P) w a cs hsrc
  have hst := run_storeCells_at P g o t cs 0 cur w hg (by simpa using hfit) h1
  cases hq : P.info? elem with
  | none => simp [hq] at hs
  | some i =>
    have hi : i.size = z := by simpa [hq] using hs
    rw [hn] at hl
    simp [Builtin.copy_, run_underlying hu, Builtin.lenOf, Builtin.firstCells, sizeOf, typeInfo, hq, hi, hmin, hl, hst]

theorem ins_listC {α : Type} (A xs x : List α) (N a z : Nat) (hA : A.take N = xs) (hx : x.length = z) (ha : a + z ≤ N) (hl : N + z ≤ A.length) :
    ((A.take (a + z) ++ xs.drop a ++ A.drop (N + z)).take a ++ x ++ (A.take (a + z) ++ xs.drop a ++ A.drop (N + z)).drop (a + z)).take (N + z) = xs.take a ++ x ++ xs.drop a := by
  have hxl : xs.length = N := by rw [← hA, List.length_take]; omega
  have e1 : (A.take (a + z) ++ xs.drop a ++ A.drop (N + z)).take a = xs.take a := by
    rw [List.append_assoc, List.take_append_of_le_length (by rw [List.length_take]; omega), List.take_take, ← hA, List.take_take]
    congr 1; omega
  have e2 : (A.take (a + z) ++ xs.drop a ++ A.drop (N + z)).drop (a + z) = xs.drop a ++ A.drop (N + z) := by
    rw [List.append_assoc, List.drop_left' (by rw [List.length_take]; omega)]
  rw [e1, e2, ← List.append_assoc]
  exact List.take_left' (by simp only [List.length_append, List.length_take, List.length_drop, hxl, hx]; omega)

theorem ins_listB {α : Type} (R xs x : List α) (N a z : Nat) (hA : R.take a = xs.take a) (hxl : xs.length = N) (hx : x.length = z) (ha : a + z ≤ N) (hl : N + z ≤ R.length) :
    ((R.take a ++ x ++ R.drop (a + z)).take (a + z) ++ xs.drop a ++ (R.take a ++ x ++ R.drop (a + z)).drop (N + z)).take (N + z) = xs.take a ++ x ++ xs.drop a := by
  have e1 : (R.take a ++ x ++ R.drop (a + z)).take (a + z) = xs.take a ++ x := by
    rw [List.take_left' (by simp only [List.length_append, List.length_take, hx]; omega), hA]
  rw [e1]
  exact List.take_left' (by simp only [List.length_append, List.length_take, List.length_drop, hxl, hx]; omega)

theorem del_list {α : Type} (A xs : List α) (N a z : Nat) (hA : A.take N = xs) (ha : a + z ≤ N) (hl : N ≤ A.length) (q : List α) :
    (A.take a ++ xs.drop (a + z) ++ q).take (N - z) = xs.take a ++ xs.drop (a + z) := by
  have hxl : xs.length = N := by rw [← hA, List.length_take]; omega
  rw [List.take_left' (by simp only [List.length_append, List.length_take, List.length_drop, hxl]; omega)]
  congr 1
  rw [← hA, List.take_take]
  congr 1; omega

section
variable {P : Program} {base z n : Nat} {e sT : TypeId} {xs x : List Value}

/-- There is room: the rest goes up by one, then the new one is laid. -/
theorem own_insC {w : World} {g cap : Nat} (h : w.ownsRow base e z (.slice (some ⟨g, 0, none⟩) n cap) n xs) (hu : P.underlying sT = some (.slice e)) (hs : (P.info? e).map (·.size) = some z) (i : Nat) (hi : i < n) (hroom : n + 1 ≤ cap) (hx : x.length = z) (h1x : ∀ u ∈ x, u.oneCell' = true) (h1 : ∀ u ∈ xs, u.oneCell' = true) (vb : Nat) (hvb : vb ≠ g) (hv : ∀ j u, x[j]? = some u → w.cell? ⟨vb, j, none⟩ = some u) :
    ∃ W1 W2, (∀ ty dl dc sl sc o1 o2, dl = n - i → sl = n + 1 - i → o1 = (i + 1) * z → o2 = i * z → (Builtin.copy_ #[sT, sT] ty #[.slice (some ⟨g, o1, none⟩) dl dc, .slice (some ⟨g, o2, none⟩) sl sc]).run P w = .ok (goInt ((n - i : Nat) : Int)) W1) ∧
      (∀ ty dl dc sc o1, dl = n + 1 - i → o1 = i * z → (Builtin.copy_ #[sT, sT] ty #[.slice (some ⟨g, o1, none⟩) dl dc, .slice (some ⟨vb, 0, none⟩) 1 sc]).run P W1 = .ok (goInt 1) W2) ∧
      W2.ownsRow base e z (.slice (some ⟨g, 0, none⟩) (n + 1) cap) (n + 1) (xs.take (i * z) ++ x ++ xs.drop (i * z)) ∧ Off g w W2 := by
  rcases h.2 with ⟨q1, _⟩ | ⟨g', cap', cur, q1, hb, hB, hnc, hcm, hcs, ht⟩
  · cases q1
  injection q1 with q1 q2 q3
  injection q1 with q1
  injection q1 with q1
  subst q1 q3
  have hB' : w.heap[g]? = some (.cells cur e (0, 0)) := hB
  have hxl : xs.length = n * z := h.1
  have e1 : (i + 1) * z = i * z + z := Nat.succ_mul i z
  have e2 : (n + 1) * z = n * z + z := Nat.succ_mul n z
  have e3 : (i + 1) * z ≤ n * z := Nat.mul_le_mul_right z hi
  have e4 : (n + 1) * z ≤ cap * z := Nat.mul_le_mul_right z hroom
  have e5 : (n - i) * z = n * z - i * z := Nat.sub_mul n i z
  have hdl : (xs.drop (i * z)).length = (n - i) * z := by rw [List.length_drop, hxl, e5]
  have hcells := h.cells (g := g) rfl
  have hr1 : ∀ ty dl dc sl sc, dl = n - i → sl = n + 1 - i → (Builtin.copy_ #[sT, sT] ty #[.slice (some ⟨g, (i + 1) * z, none⟩) dl dc, .slice (some ⟨g, i * z, none⟩) sl sc]).run P w = _ := fun ty dl dc sl sc h1' h2' =>
    run_copy_rowZ w sT sT ty e z g ((i + 1) * z) dl dc ⟨g, i * z, none⟩ sl sc (n - i) cur e (xs.drop (i * z)) hu hs hB' (by subst h1' h2'; show min _ _ = _; omega) hdl
      (fun j u hj => by
        rw [List.getElem?_drop] at hj
        have := hcells _ u hj
        rw [Addr.add_lit, Nat.zero_add] at this
        rw [Addr.add_lit]; exact this)
      (by rw [hdl, hcs]; omega) (fun u hu => h1 u (List.mem_of_mem_drop hu))
  obtain ⟨c1, hc1⟩ : ∃ c1, (cur.toList.take ((i + 1) * z) ++ xs.drop (i * z) ++ cur.toList.drop ((i + 1) * z + (xs.drop (i * z)).length)).toArray = c1 := ⟨_, rfl⟩
  rw [hc1] at hr1
  have hB1 : (w.setRow g c1).heap[g]? = some (.cells c1 e (0, 0)) := setRow_heap w g cur _ _ (0, 0) hB'
  have hc1s : c1.size = cap * z := by
    rw [← hc1]
    simp only [List.size_toArray, List.length_append, List.length_take, List.length_drop, Array.length_toList, hxl]
    omega
  have hr2 : ∀ ty dl dc sc, dl = n + 1 - i → (Builtin.copy_ #[sT, sT] ty #[.slice (some ⟨g, i * z, none⟩) dl dc, .slice (some ⟨vb, 0, none⟩) 1 sc]).run P (w.setRow g c1) = _ := fun ty dl dc sc h1' =>
    run_copy_rowZ (w.setRow g c1) sT sT ty e z g (i * z) dl dc ⟨vb, 0, none⟩ 1 sc 1 c1 e x hu hs hB1 (by subst h1'; show min _ _ = _; omega) (by rw [hx, Nat.one_mul])
      (fun j u hj => by
        rw [Addr.add_lit, Nat.zero_add, World.cell?_of_block (w := w) (setRow_other w g vb c1 hvb)]
        exact hv j u hj)
      (by rw [hx, hc1s]; omega) h1x
  refine ⟨_, _, fun ty dl dc sl sc o1 o2 a1 a2 a3 a4 => by subst a3 a4; exact hr1 ty dl dc sl sc a1 a2, fun ty dl dc sc o1 a1 a3 => by subst a3; exact hr2 ty dl dc sc a1, ⟨?_, Or.inr ⟨g, cap, _, rfl, hb, setRow_heap _ g c1 _ _ (0, 0) hB1, hroom, hcm, ?_, ?_⟩⟩, ((Off.refl _ _).setRow _).setRow _⟩
  · simp only [List.length_append, List.length_take, List.length_drop, hxl, hx]; omega
  · simp only [List.size_toArray, List.length_append, List.length_take, List.length_drop, Array.length_toList, hx, hc1s]; omega
  · have := ins_listC cur.toList xs x (n * z) (i * z) z ht hx (by omega) (by rw [Array.length_toList, hcs]; omega)
    rw [e2, hx, ← hc1, hdl, e1, show i * z + z + (n - i) * z = n * z + z by omega]
    exact this

/-- There is no room: a new row, the new one, then the rest. -/
theorem own_insB {w : World} {g cap : Nat} (h : w.ownsRow base e z (.slice (some ⟨g, 0, none⟩) n cap) n xs) (tn : TypeId) (htn : P.underlying tn = some (.int .i64)) (i0 : TypeInfo) (zv : Value) (bytes : Nat) (hu : P.underlying sT = some (.slice e)) (hi0 : P.info? e = some i0) (hz0 : i0.zero = some zv) (hzs : i0.size = z) (hzc : zv.cells.size = z) (hz : 0 < z) (hby : i0.bytes = bytes) (hbase : base ≤ w.heap.size)
    (i : Nat) (hi : i < n) (hroom : cap < n + 1) (hbig : (n + 1) * bytes ≤ 140737488355328) (hm : n + 1 ≤ maxLen) (hx : x.length = z) (h1x : ∀ u ∈ x, u.oneCell' = true) (h1 : ∀ u ∈ xs, u.oneCell' = true) (vb : Nat) (hvw : vb < w.heap.size) (hv : ∀ j u, x[j]? = some u → w.cell? ⟨vb, j, none⟩ = some u) :
    ∃ G W1 W2 W3, n + 1 ≤ G ∧ G ≤ maxLen ∧ (∀ ty kk, kk = ((n + 1 - i : Nat) : Int) → (Builtin.append_ #[sT, tn] ty #[.slice (some ⟨g, 0, none⟩) i cap, .int .i64 kk]).run P w = .ok (.slice (some ⟨w.heap.size, 0, none⟩) (n + 1) G) W1) ∧
      (∀ ty dl dc sc o1, dl = n + 1 - i → o1 = i * z → (Builtin.copy_ #[sT, sT] ty #[.slice (some ⟨w.heap.size, o1, none⟩) dl dc, .slice (some ⟨vb, 0, none⟩) 1 sc]).run P W1 = .ok (goInt 1) W2) ∧
      (∀ ty dl dc sl sc o1 o2, dl = n - i → sl = n - i → o1 = (i + 1) * z → o2 = i * z → (Builtin.copy_ #[sT, sT] ty #[.slice (some ⟨w.heap.size, o1, none⟩) dl dc, .slice (some ⟨g, o2, none⟩) sl sc]).run P W2.drew = .ok (goInt ((n - i : Nat) : Int)) W3) ∧
      W3.ownsRow base e z (.slice (some ⟨w.heap.size, 0, none⟩) (n + 1) G) (n + 1) (xs.take (i * z) ++ x ++ xs.drop (i * z)) ∧ Below w.heap.size w W3 := by
  have hgw : g < w.heap.size := (h.lt g rfl).2
  have hxl : xs.length = n * z := h.1
  have e1 : (i + 1) * z = i * z + z := Nat.succ_mul i z
  have e2 : (n + 1) * z = n * z + z := Nat.succ_mul n z
  have e3 : (i + 1) * z ≤ n * z := Nat.mul_le_mul_right z hi
  have e5 : (n - i) * z = n * z - i * z := Nat.sub_mul n i z
  have hs : (P.info? e).map (·.size) = some z := by rw [hi0]; simp [hzs]
  have hdl : (xs.drop (i * z)).length = (n - i) * z := by rw [List.length_drop, hxl, e5]
  have hcells := h.cells (g := g) rfl
  have hold : (Builtin.firstCells i0.size i (.slice (some ⟨g, 0, none⟩) i cap)).run P w.drew = .ok (xs.take (i * z)).toArray w.drew := by
    rw [hzs]
    exact run_firstCells_some w.drew z i ⟨g, 0, none⟩ i cap (xs.take (i * z)) (by rw [List.length_take]; omega) (fun j u hj => by
      rw [List.getElem?_take] at hj
      split at hj
      · exact hcells j u hj
      · cases hj)
  have hik : i + (n + 1 - i) = n + 1 := by omega
  have hkb : (n + 1 - i) * bytes ≤ (n + 1) * bytes := Nat.mul_le_mul_right _ (by omega)
  have h63 : n + 1 ≤ 9223372036854775807 := by unfold maxLen at hm; omega
  have hrz := fun ty => Lib.run_append_grow_zeros (P := P) w sT tn ty e i0 zv .i64 .i64 hu htn hi0 hz0 (some ⟨g, 0, none⟩) i cap (xs.take (i * z)) hold (n + 1 - i) (by omega) (by omega) (by omega) (by omega) (by rw [hby]; omega) (by rw [hby, hik]; exact growslice_fits hroom hbig)
  rw [hik] at hrz
  obtain ⟨G, hG⟩ : ∃ G, G = grownCap w (n + 1) cap e := ⟨_, rfl⟩
  have hGn : n + 1 ≤ G := by rw [hG]; exact grownCap_ge w _ _ _
  have hGm : G ≤ maxLen := by rw [hG]; exact grownCap_le_maxLen w (n + 1) cap e hm
  rw [← hG] at hrz
  obtain ⟨R, hR⟩ : ∃ R : Array Value, R = (xs.take (i * z)).toArray ++ Builtin.zeroCells zv.cells (n + 1 - i) ++ Builtin.zeroCells zv.cells (G - (n + 1)) := ⟨_, rfl⟩
  rw [← hR] at hrz
  have hRs : R.size = G * z := by
    rw [hR]
    simp only [Array.size_append, List.size_toArray, List.length_take, hxl, size_zeroCells, hzc, Nat.sub_mul]
    have := Nat.mul_le_mul_right z hGn
    omega
  have hRt : R.toList.take (i * z) = xs.take (i * z) := by
    rw [hR]
    simp only [Array.toList_append, List.toList_toArray]
    rw [List.append_assoc, List.take_left' (by rw [List.length_take]; omega)]
  obtain ⟨W1, hW1⟩ : ∃ W1, w.drew.alloc (.cells R e) = W1 := ⟨_, rfl⟩
  have hB1 : W1.heap[w.heap.size]? = some (.cells R e (0, 0)) := by rw [← hW1]; exact heap_alloc_new w.drew _
  have b1 : Below w.heap.size w W1 := by rw [← hW1]; exact ((Below.refl _ w).drew).alloc (Nat.le_refl _) _
  rw [hW1] at hrz
  have e4 := Nat.mul_le_mul_right z hGn
  have hr1 : ∀ ty dl dc sc, dl = n + 1 - i → (Builtin.copy_ #[sT, sT] ty #[.slice (some ⟨w.heap.size, i * z, none⟩) dl dc, .slice (some ⟨vb, 0, none⟩) 1 sc]).run P W1 = _ := fun ty dl dc sc h1' =>
    run_copy_rowZ W1 sT sT ty e z w.heap.size (i * z) dl dc ⟨vb, 0, none⟩ 1 sc 1 R e x hu hs hB1 (by subst h1'; show min _ _ = _; omega) (by rw [hx, Nat.one_mul])
      (fun j u hj => by
        rw [Addr.add_lit, Nat.zero_add, World.cell?_of_block (w := w) (b1.block vb hvw)]
        exact hv j u hj)
      (by rw [hx, hRs]; omega) h1x
  obtain ⟨R1, hR1⟩ : ∃ R1, (R.toList.take (i * z) ++ x ++ R.toList.drop (i * z + x.length)).toArray = R1 := ⟨_, rfl⟩
  rw [hR1] at hr1
  have hR1s : R1.size = G * z := by
    rw [← hR1]
    simp only [List.size_toArray, List.length_append, List.length_take, List.length_drop, Array.length_toList, hx, hRs]; omega
  obtain ⟨W2, hW2⟩ : ∃ W2, W1.setRow w.heap.size R1 = W2 := ⟨_, rfl⟩
  have hB2 : W2.heap[w.heap.size]? = some (.cells R1 e (0, 0)) := by rw [← hW2]; exact setRow_heap W1 _ R _ _ (0, 0) hB1
  have b2 : Below w.heap.size w W2 := by rw [← hW2]; exact below_setRow b1 _ _ (Nat.le_refl _)
  rw [hW2] at hr1
  have hr2 : ∀ ty dl dc sl sc, dl = n - i → sl = n - i → (Builtin.copy_ #[sT, sT] ty #[.slice (some ⟨w.heap.size, (i + 1) * z, none⟩) dl dc, .slice (some ⟨g, i * z, none⟩) sl sc]).run P W2.drew = _ := fun ty dl dc sl sc h1' h2' =>
    run_copy_rowZ W2.drew sT sT ty e z w.heap.size ((i + 1) * z) dl dc ⟨g, i * z, none⟩ sl sc (n - i) R1 e (xs.drop (i * z)) hu hs hB2 (by subst h1' h2'; show min _ _ = _; omega) hdl
      (fun j u hj => by
        rw [List.getElem?_drop] at hj
        have := hcells _ u hj
        rw [Addr.add_lit, Nat.zero_add] at this
        rw [Addr.add_lit, World.cell?_of_block (w := w) (b2.block g hgw)]; exact this)
      (by rw [hdl, hR1s]; omega) (fun u hu => h1 u (List.mem_of_mem_drop hu))
  refine ⟨G, W1, W2, _, hGn, hGm, fun ty kk hk => by rw [hk]; exact hrz ty, fun ty dl dc sc o1 a1 a2 => by subst a2; exact hr1 ty dl dc sc a1, fun ty dl dc sl sc o1 o2 a1 a2 a3 a4 => by subst a3 a4; exact hr2 ty dl dc sl sc a1 a2, ⟨?_, Or.inr ⟨w.heap.size, G, _, rfl, hbase, setRow_heap W2.drew _ R1 _ _ (0, 0) hB2, hGn, hGm, ?_, ?_⟩⟩, below_setRow b2.drew _ _ (Nat.le_refl _)⟩
  · simp only [List.length_append, List.length_take, List.length_drop, hxl, hx]; omega
  · simp only [List.size_toArray, List.length_append, List.length_take, List.length_drop, Array.length_toList, hxl, hR1s]; omega
  · have := ins_listB R.toList xs x (n * z) (i * z) z hRt hxl hx (by omega) (by rw [Array.length_toList, hRs]; omega)
    rw [e2, ← hR1, hdl, e1, hx, show i * z + z + (n - i) * z = n * z + z by omega]
    exact this

/-- One is taken out, and the cell behind the rest is cleared. -/
theorem own_del {w : World} {g cap m : Nat} (h : w.ownsRow base e z (.slice (some ⟨g, 0, none⟩) (m + 1) cap) (m + 1) xs) (i0 : TypeInfo) (zv : Value) (hu : P.underlying sT = some (.slice e)) (hi0 : P.info? e = some i0) (hzs : i0.size = z) (hzc : zv.cells.size = z) (hzv : ∀ w, (zeroValue e).run P w = .ok zv w) (hz1 : ∀ u ∈ (Builtin.zeroCells zv.cells 1).toList, u.oneCell' = true) (h1 : ∀ u ∈ xs, u.oneCell' = true)
    (i : Nat) (hi : i < m + 1) :
    ∃ W1 W2, (∀ ty ad dl c, dl = m - i → (ad = ⟨g, (i + 1) * z, none⟩ ∨ m - i = 0) → (Builtin.append_ #[sT, sT] ty #[.slice (some ⟨g, 0, none⟩) i cap, .slice (some ad) dl c]).run P w = .ok (.slice (some ⟨g, 0, none⟩) m cap) W1) ∧
      (∀ ty o1 c, o1 = m * z → (Builtin.clear_ #[sT] ty #[.slice (some ⟨g, o1, none⟩) 1 c]).run P W1 = .ok (.tuple #[]) W2) ∧
      W2.ownsRow base e z (.slice (some ⟨g, 0, none⟩) m cap) m (xs.take (i * z) ++ xs.drop (i * z + z)) ∧ Off g w W2 := by
  rcases h.2 with ⟨q1, _⟩ | ⟨g', cap', cur, q1, hb, hB, hnc, hcm, hcs, ht⟩
  · cases q1
  injection q1 with q1 q2 q3
  injection q1 with q1
  injection q1 with q1
  subst q1 q3
  have hB' : w.heap[g]? = some (.cells cur e (0, 0)) := hB
  have hxl : xs.length = (m + 1) * z := h.1
  have e1 : (i + 1) * z = i * z + z := Nat.succ_mul i z
  have e2 : (m + 1) * z = m * z + z := Nat.succ_mul m z
  have e3 : (i + 1) * z ≤ (m + 1) * z := Nat.mul_le_mul_right z hi
  have e4 : (m + 1) * z ≤ cap * z := Nat.mul_le_mul_right z hnc
  have e5 : (m - i) * z = m * z - i * z := Nat.sub_mul m i z
  have hdl : (xs.drop (i * z + z)).length = (m - i) * z := by rw [List.length_drop, hxl, e5]; omega
  have hcells := h.cells (g := g) rfl
  have hr1 : ∀ ty ad dl c, dl = m - i → (ad = ⟨g, (i + 1) * z, none⟩ ∨ m - i = 0) → (Builtin.append_ #[sT, sT] ty #[.slice (some ⟨g, 0, none⟩) i cap, .slice (some ad) dl c]).run P w = _ := fun ty ad dl c h1' had =>
    run_append_room (P := P) w sT ty e i0 hu hi0 g i cap cur hB' ad dl c (xs.drop (i * z + z)) (by rw [hdl, hzs, h1']) (fun j u hj => by
      have hjl : j < (m - i) * z := by have := (List.getElem?_eq_some_iff.1 hj).1; rw [hdl] at this; exact this
      rcases had with q | q
      · subst q
        rw [List.getElem?_drop] at hj
        have := hcells _ u hj
        rw [Addr.add_lit, Nat.zero_add] at this
        rw [Addr.add_lit, e1]; exact this
      · rw [q, Nat.zero_mul] at hjl; omega) (fun u hu => h1 u (List.mem_of_mem_drop hu)) (by omega) (by rw [hdl, hzs, hcs]; omega)
  obtain ⟨c1, hc1⟩ : ∃ c1, (cur.toList.take (i * z) ++ xs.drop (i * z + z) ++ cur.toList.drop (i * z + (xs.drop (i * z + z)).length)).toArray = c1 := ⟨_, rfl⟩
  rw [hzs, hc1] at hr1
  have hB1 : (w.setRow g c1).heap[g]? = some (.cells c1 e (0, 0)) := setRow_heap w g cur _ _ (0, 0) hB'
  have hc1s : c1.size = cap * z := by
    rw [← hc1]
    simp only [List.size_toArray, List.length_append, List.length_take, List.length_drop, Array.length_toList, hxl]
    omega
  obtain ⟨zs, hzz⟩ : ∃ zs, (Builtin.zeroCells zv.cells 1).toList = zs := ⟨_, rfl⟩
  have hzl : zs.length = z := by rw [← hzz, Array.length_toList, size_zeroCells, hzc, Nat.one_mul]
  rw [hzz] at hz1
  have hst := run_storeCells_at P g (m * z) e zs 0 c1 (w.setRow g c1) hB1 (by rw [hzl, hc1s]; omega) hz1
  rw [Nat.add_zero] at hst
  refine ⟨w.setRow g c1, (w.setRow g c1).setRow g (c1.toList.take (m * z) ++ zs ++ c1.toList.drop (m * z + zs.length)).toArray, fun ty ad dl c a1 a2 => by have := hr1 ty ad dl c a1 a2; rw [this, a1, show i + (m - i) = m by omega], fun ty o1 c a1 => ?_, ⟨?_, Or.inr ⟨g, cap, _, rfl, hb, setRow_heap _ g c1 _ _ (0, 0) hB1, by omega, hcm, ?_, ?_⟩⟩, ((Off.refl _ _).setRow _).setRow _⟩
  · subst a1
    simp [Builtin.clear_, run_underlying hu, hzv, hzz, hst]
  · simp only [List.length_append, List.length_take, List.length_drop, hxl]; omega
  · simp only [List.size_toArray, List.length_append, List.length_take, List.length_drop, Array.length_toList, hzl, hc1s]; omega
  · rw [List.append_assoc, List.take_left' (by rw [List.length_take, Array.length_toList, hc1s]; omega), ← hc1]
    have := del_list cur.toList xs ((m + 1) * z) (i * z) z ht (by omega) (by rw [Array.length_toList, hcs]; omega) (cur.toList.drop (i * z + (xs.drop (i * z + z)).length))
    rw [e2, Nat.add_sub_cancel] at this
    exact this
end
end Go.Proofs.YtpcafjbebhcilaaGreat
