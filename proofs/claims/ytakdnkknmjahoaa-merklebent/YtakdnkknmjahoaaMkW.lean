/- Proofs that are bent: their rows of paths, copied and changed. -/
import Derived.Test.YtakdnkknmjahoaaMkO
import Derived.Test.YtakdnkknmjahoaaMkL
import Derived.Deep.DeepCutAuto
namespace Go.Proofs.Ytakdnkknmjahoaa
open Go.RowKit
set_option linter.unusedSimpArgs false
set_option linter.unusedVariables false
variable {p b x y : Nat} {T : List ByteArray} {S : List (Int × ByteArray)}

set_option maxRecDepth 100000 in
theorem around_calls (n m : Int) (w : World) (h : 1 ≤ m) (hm : m ≤ 1000000) : Calls Try.prog 32 #[.int .i64 n, .int .i64 m] w fun e w' => (∃ k : Int, 0 ≤ k ∧ k < m ∧ e = .returned (.int .i64 k)) ∧ w' = w := by
  have g1 := Int.tmod_lt_of_pos n (show 0 < m by omega)
  have g2 := Int.lt_tmod_of_pos n (show 0 < m by omega)
  have hz : (m == 0) = false := by simp; omega
  generalize hk : n.tmod m = k at *
  have hw : IntKind.i64.wrap k = k := by rw [IntKind.wrap_i64]; omega
  by_cases h0 : k < 0
  · have hd : decide (k < 0) = true := decide_eq_true h0
    go_enter Try.func32, Try.ntmps32
    go_wp2
    go_ret
    exact ⟨⟨-k, by omega, by omega, by simp⟩, rfl⟩
  · have hd : decide (k < 0) = false := decide_eq_false h0
    go_enter Try.func32, Try.ntmps32
    go_wp2
    go_ret
    exact ⟨⟨k, by omega, by omega, rfl⟩, rfl⟩

/-- A path whose sides can be cut. -/
def PQ (w : World) (q : Pt × Value) : Prop := Lf w q.2 q.1.sides ∧ (∀ s ∈ q.1.sides, s.size ≤ maxLen) ∧ q.1.key.size ≤ maxLen ∧ q.1.dat.size ≤ maxLen
/-- A row of paths, wherever it lies. -/
def PR (w : World) (v : Value) (L : List (Pt × Value)) : Prop := (∃ a cap, v = .slice a L.length cap ∧ ∀ j u, (ptC L)[j]? = some u → ∃ g off, a = some ⟨g, off, none⟩ ∧ w.cell? ⟨g, off + j, none⟩ = some u) ∧ ∀ q ∈ L, PQ w q
/-- No more than n paths, none with more than n sides. -/
def Sm (n : Nat) (L : List (Pt × Value)) : Prop := L.length ≤ n ∧ ∀ q ∈ L, q.1.sides.length ≤ n
theorem PQ.below {w w' : World} {q : Pt × Value} (h : PQ w q) (hb : Below w.heap.size w w') : PQ w' q := ⟨h.1.below hb, h.2⟩
theorem PR.below {w w' : World} {v : Value} {L : List (Pt × Value)} (h : PR w v L) (hb : Below w.heap.size w w') : PR w' v L := by
  obtain ⟨⟨a, cap, e, hc⟩, hq⟩ := h
  exact ⟨⟨a, cap, e, fun j u hj => by obtain ⟨g, off, e1, e2⟩ := hc j u hj; exact ⟨g, off, e1, keepCell hb e2⟩⟩, fun q hm => (hq q hm).below hb⟩
theorem PR.off2 {w w' : World} {v : Value} {L : List (Pt × Value)} (h : PR w v L) (hb : Book w p b x y T S) (ho : Off2 x y w w') : PR w' v L := by
  obtain ⟨⟨a, cap, e, hc⟩, hq⟩ := h
  exact ⟨⟨a, cap, e, fun j u hj => by obtain ⟨g, off, e1, e2⟩ := hc j u hj; exact ⟨g, off, e1, keepCell2 hb ho e2⟩⟩, fun q hm => ⟨(hq q hm).1.off2 hb ho, (hq q hm).2⟩⟩
theorem PR.at {w : World} {v : Value} {L : List (Pt × Value)} (h : PR w v L) (h0 : 0 < L.length) : ∃ g off cap, v = .slice (some ⟨g, off, none⟩) L.length cap ∧ ∀ j u, (ptC L)[j]? = some u → w.cell? ⟨g, off + j, none⟩ = some u := by
  obtain ⟨⟨a, cap, rfl, hc⟩, _⟩ := h
  obtain ⟨g, off, rfl, _⟩ := hc _ _ (ptC_get L 0 h0).1
  refine ⟨g, off, cap, rfl, fun j u hj => ?_⟩
  obtain ⟨g', off', e, hx⟩ := hc j u hj
  simp only [Option.some.injEq, Addr.mk.injEq, and_true] at e
  obtain ⟨rfl, rfl⟩ := e
  exact hx
theorem strs_lf2 {w : World} {v : Value} {l : List ByteArray} (h : Lf w v l) (hz : ∀ s ∈ l, s.size ≤ maxLen) : Strs w v l := by
  by_cases h0 : l.length = 0
  · obtain rfl := List.length_eq_zero_iff.1 h0
    obtain ⟨a, cap, e, _⟩ := h
    exact Or.inl ⟨⟨a, cap, e⟩, rfl⟩
  · obtain ⟨g, off, cap, e, _, _, hx⟩ := h.at (by omega)
    exact Or.inr ⟨g, off, cap, e, fun i hi => ⟨hx i hi, hz _ (List.getElem_mem hi)⟩⟩
theorem PR.ptsC {w : World} {v : Value} {L : List (Pt × Value)} (h : PR w v L) : PtsC w v (L.map Prod.fst) := by
  by_cases h0 : L.length = 0
  · obtain rfl := List.length_eq_zero_iff.1 h0
    obtain ⟨⟨p, c, rfl, _⟩, _⟩ := h
    exact ⟨Or.inl ⟨⟨p, c, rfl⟩, rfl⟩, fun k hk => by simp at hk⟩
  · obtain ⟨g, off, cap, rfl, hx⟩ := h.at (by omega)
    have hl : (L.map Prod.fst).length = L.length := by simp
    refine ⟨Or.inr ⟨g, off, cap, by rw [hl], fun i hi => ?_⟩, fun k hk g' off' cap' e => ?_⟩
    · have hi' : i < L.length := by omega
      obtain ⟨c0, c1, c2, c3⟩ := ptC_get L i hi'
      have hm := h.2 L[i] (List.getElem_mem hi')
      have e : (L.map Prod.fst)[i] = L[i].1 := by simp
      rw [e]
      exact ⟨L[i].2, hx _ _ c0, hx _ _ c1, hx _ _ c2, hx _ _ c3, strs_lf2 hm.1 hm.2.1, hm.2.2.1, hm.2.2.2⟩
    · have hi' : k < L.length := by omega
      simp only [Value.slice.injEq, Option.some.injEq, Addr.mk.injEq, and_true] at e
      obtain ⟨⟨rfl, rfl⟩, _⟩ := e
      obtain ⟨c0, c1, c2, c3⟩ := ptC_get L k hi'
      have e : (L.map Prod.fst)[k] = L[k].1 := by simp
      rw [e]
      exact ⟨L[k].2, hx _ _ c3, (h.2 L[k] (List.getElem_mem hi')).1⟩
theorem ptC_cons (q : Pt × Value) (L : List (Pt × Value)) : ptC (q :: L) = .int .i64 q.1.idx :: .string q.1.key :: .string q.1.dat :: q.2 :: ptC L := by simp [ptC]
theorem ptC_len : ∀ L : List (Pt × Value), (ptC L).length = L.length * 4
  | [] => rfl
  | q :: L => by rw [ptC_cons]; simp [ptC_len L]; omega
theorem ptC_one (L : List (Pt × Value)) (h : ∀ q ∈ L, ∃ a n c, q.2 = .slice a n c) : ∀ u ∈ ptC L, u.oneCell' = true := by
  intro u hu
  simp only [ptC, List.mem_flatMap, List.mem_cons, List.not_mem_nil, or_false] at hu
  obtain ⟨q, hq, rfl | rfl | rfl | rfl⟩ := hu
  · rfl
  · rfl
  · rfl
  · obtain ⟨a, n, c, e⟩ := h q hq
    rw [e]; rfl
theorem ptC_set0 : ∀ {L : List (Pt × Value)} {i : Nat} {q : Pt × Value} (z : Int), L[i]? = some q → (ptC L).set (i * 4) (.int .i64 z) = ptC (L.set i (⟨z, q.1.key, q.1.dat, q.1.sides⟩, q.2))
  | [], i, q, z, h => by simp at h
  | r :: L, 0, q, z, h => by
    simp only [List.getElem?_cons_zero, Option.some.injEq] at h; subst h
    show (ptC (r :: L)).set _ _ = ptC (_ :: L)
    rw [ptC_cons, ptC_cons]; rfl
  | r :: L, i + 1, q, z, h => by
    show (ptC (r :: L)).set _ _ = ptC (r :: L.set i _)
    rw [ptC_cons, ptC_cons, ← ptC_set0 z (show L[i]? = some q by simpa using h), show (i + 1) * 4 = i * 4 + 1 + 1 + 1 + 1 by omega]; rfl
theorem ptC_set1 : ∀ {L : List (Pt × Value)} {i : Nat} {q : Pt × Value} (z : ByteArray), L[i]? = some q → (ptC L).set (i * 4 + 1) (.string z) = ptC (L.set i (⟨q.1.idx, z, q.1.dat, q.1.sides⟩, q.2))
  | [], i, q, z, h => by simp at h
  | r :: L, 0, q, z, h => by
    simp only [List.getElem?_cons_zero, Option.some.injEq] at h; subst h
    show (ptC (r :: L)).set _ _ = ptC (_ :: L)
    rw [ptC_cons, ptC_cons]; rfl
  | r :: L, i + 1, q, z, h => by
    show (ptC (r :: L)).set _ _ = ptC (r :: L.set i _)
    rw [ptC_cons, ptC_cons, ← ptC_set1 z (show L[i]? = some q by simpa using h), show (i + 1) * 4 + 1 = i * 4 + 1 + 1 + 1 + 1 + 1 by omega]; rfl
theorem ptC_set2 : ∀ {L : List (Pt × Value)} {i : Nat} {q : Pt × Value} (z : ByteArray), L[i]? = some q → (ptC L).set (i * 4 + 2) (.string z) = ptC (L.set i (⟨q.1.idx, q.1.key, z, q.1.sides⟩, q.2))
  | [], i, q, z, h => by simp at h
  | r :: L, 0, q, z, h => by
    simp only [List.getElem?_cons_zero, Option.some.injEq] at h; subst h
    show (ptC (r :: L)).set _ _ = ptC (_ :: L)
    rw [ptC_cons, ptC_cons]; rfl
  | r :: L, i + 1, q, z, h => by
    show (ptC (r :: L)).set _ _ = ptC (r :: L.set i _)
    rw [ptC_cons, ptC_cons, ← ptC_set2 z (show L[i]? = some q by simpa using h), show (i + 1) * 4 + 2 = i * 4 + 2 + 1 + 1 + 1 + 1 by omega]; rfl
theorem ptC_set3 : ∀ {L : List (Pt × Value)} {i : Nat} {q : Pt × Value} (ss : List ByteArray) (sv : Value), L[i]? = some q → (ptC L).set (i * 4 + 3) sv = ptC (L.set i (⟨q.1.idx, q.1.key, q.1.dat, ss⟩, sv))
  | [], i, q, ss, sv, h => by simp at h
  | r :: L, 0, q, ss, sv, h => by
    simp only [List.getElem?_cons_zero, Option.some.injEq] at h; subst h
    show (ptC (r :: L)).set _ _ = ptC (_ :: L)
    rw [ptC_cons, ptC_cons]; rfl
  | r :: L, i + 1, q, ss, sv, h => by
    show (ptC (r :: L)).set _ _ = ptC (r :: L.set i _)
    rw [ptC_cons, ptC_cons, ← ptC_set3 ss sv (show L[i]? = some q by simpa using h), show (i + 1) * 4 + 3 = i * 4 + 3 + 1 + 1 + 1 + 1 by omega]; rfl
theorem Sm.set {n i : Nat} {L : List (Pt × Value)} (h : Sm n L) (q : Pt × Value) (hq : q.1.sides.length ≤ n + 1) : Sm (n + 1) (L.set i q) := by
  refine ⟨by rw [List.length_set]; have := h.1; omega, fun r hr => ?_⟩
  rcases List.mem_or_eq_of_mem_set hr with h1 | rfl
  · have := h.2 r h1; omega
  · exact hq
theorem Sm.up {n : Nat} {L : List (Pt × Value)} (h : Sm n L) : Sm (n + 1) L := ⟨by have := h.1; omega, fun r hr => by have := h.2 r hr; omega⟩
theorem PR.set {w : World} {base i : Nat} {v : Value} {L : List (Pt × Value)} {q : Pt × Value} (ho : w.ownsRow base 62 4 v (L.set i q).length (ptC (L.set i q))) (hL : ∀ r ∈ L, PQ w r) (hq : PQ w q) : PR w v (L.set i q) := by
  refine ⟨?_, fun r hr => ?_⟩
  · rcases Nat.eq_zero_or_pos (L.set i q).length with h0 | h0
    · obtain ⟨a, c, rfl⟩ := own_sliceM ho
      refine ⟨a, c, rfl, fun j u hj => ?_⟩
      have := List.length_eq_zero_iff.1 h0
      rw [this] at hj; simp [ptC] at hj
    · obtain ⟨g, cap, rfl, _, _, hx⟩ := own_at ho h0
      exact ⟨_, cap, rfl, fun j u hj => ⟨g, 0, rfl, by rw [Nat.zero_add]; exact hx j u hj⟩⟩
  · rcases List.mem_or_eq_of_mem_set hr with h1 | rfl
    · exact hL r h1
    · exact hq
theorem PR.own {w : World} {base : Nat} {v : Value} {L : List (Pt × Value)} (ho : w.ownsRow base 62 4 v L.length (ptC L)) (hL : ∀ r ∈ L, PQ w r) : PR w v L := by
  refine ⟨?_, hL⟩
  rcases Nat.eq_zero_or_pos L.length with h0 | h0
  · obtain ⟨a, c, rfl⟩ := own_sliceM ho
    refine ⟨a, c, rfl, fun j u hj => ?_⟩
    have := List.length_eq_zero_iff.1 h0
    rw [this] at hj; simp [ptC] at hj
  · obtain ⟨g, cap, rfl, _, _, hx⟩ := own_at ho h0
    exact ⟨_, cap, rfl, fun j u hj => ⟨g, 0, rfl, by rw [Nat.zero_add]; exact hx j u hj⟩⟩
theorem ptC_append (A B : List (Pt × Value)) : ptC (A ++ B) = ptC A ++ ptC B := by simp [ptC]
theorem PR.cut {w : World} {a : Option Addr} {n cap : Nat} {L : List (Pt × Value)} (h : PR w (.slice a L.length cap) L) (hn : n ≤ L.length) : PR w (.slice a n cap) (L.take n) := by
  obtain ⟨⟨a', cap', e, hc⟩, hq⟩ := h
  simp only [Value.slice.injEq, true_and] at e
  obtain ⟨rfl, rfl⟩ := e
  refine ⟨⟨a, cap, by rw [List.length_take, Nat.min_eq_left hn], fun j u hj => hc j u ?_⟩, fun q hm => hq q (List.mem_of_mem_take hm)⟩
  have e2 : ptC L = ptC (L.take n) ++ ptC (L.drop n) := by rw [← ptC_append, List.take_append_drop]
  rw [e2, List.getElem?_append_left (List.getElem?_eq_some_iff.1 hj).1]
  exact hj

theorem own_setAtM {w : World} {base n z g q cap : Nat} {t : TypeId} {u : Value} {xs : List Value} (h : w.ownsRow base t z (.slice (some ⟨g, 0, none⟩) n cap) n xs) (hq : q < n * z) : (w.setCell ⟨g, q, none⟩ u).ownsRow base t z (.slice (some ⟨g, 0, none⟩) n cap) n (xs.set q u) := by
  refine ⟨by rw [List.length_set]; exact h.1, ?_⟩
  rcases h.2 with ⟨h1, _⟩ | ⟨g', cap', cur, h1, hb, hB, hnc, hcm, hcs, ht⟩
  · cases h1
  · injection h1 with h1 h2 h3
    injection h1 with h1
    injection h1 with h1
    subst h1 h3
    refine Or.inr ⟨g, cap, cur.setIfInBounds q u, rfl, hb, heap_setCell_same w g q cur t u hB, hnc, hcm, by simpa using hcs, ?_⟩
    rw [Array.toList_setIfInBounds, List.take_set, ht]
theorem own_blk {w : World} {base n z g cap : Nat} {t : TypeId} {xs : List Value} (h : w.ownsRow base t z (.slice (some ⟨g, 0, none⟩) n cap) n xs) : ∃ cur, Blk w g cur t ∧ base ≤ g ∧ n ≤ cap ∧ cap ≤ maxLen := by
  rcases h.2 with ⟨h1, _⟩ | ⟨g', cap', cur, h1, hb, hB, hnc, hcm, hcs, ht⟩
  · cases h1
  · injection h1 with h1 h2 h3
    injection h1 with h1
    injection h1 with h1
    subst h1 h3
    exact ⟨cur, hB, hb, hnc, hcm⟩

theorem append_emptyS (p : Option Addr) (c : Nat) (w : World) : (Builtin.append_ #[60, 60] 60 #[.slice none 0 0, .slice p 0 c]).run Try.prog w = .ok (.slice none 0 0) w := by
  cases p with
  | none => kernel_rfl
  | some a => kernel_rfl
theorem append_emptyP (p : Option Addr) (c : Nat) (w : World) : (Builtin.append_ #[26, 26] 26 #[.slice none 0 0, .slice p 0 c]).run Try.prog w = .ok (.slice none 0 0) w := by
  cases p with
  | none => kernel_rfl
  | some a => kernel_rfl
theorem wpList_append_givenW (w : World) {ops : Array Oper} {rest : List Oper} {o : Oper} {a : Act} {Q : Exit → Act → World → Prop} (hgd : o.guard = none) (s x : Operand) (t : TypeId)
    (ho : o.op = .call { callee := .builtin .append, args := #[s, x], argTypes := #[t, t] }) (v u : Value) (hs : a.eval s = v) (hx : a.eval x = u) {v' : Value} {w' : World}
    (hr : (Builtin.append_ #[t, t] o.type #[v, u]).run Try.prog w = .ok v' w') (h : wpList Try.prog ops Q rest (a.put o.dst v') w') : wpList Try.prog ops Q (o :: rest) a w :=
  wpList_plain hgd fun K hK => by
    unfold Oper.wp execOp
    simp only [ho, resolve, invoke, builtin, Sem.run_bind, Sem.run_pure, Result.andThen_ok, List.map_toArray, List.map_cons, List.map_nil, hs, hx, hr]
    exact hK _ _ h
theorem txC_get (ss : List ByteArray) (j : Nat) (u : Value) (hj : (txC ss)[j]? = some u) : ∃ h : j < ss.length, u = .string ss[j] := by
  have hl := (List.getElem?_eq_some_iff.1 hj).1
  simp only [txC, List.length_map] at hl
  refine ⟨hl, ?_⟩
  simp [txC, hl] at hj
  exact hj.symm
theorem copyS (w : World) {ops : Array Oper} {rest : List Oper} {o : Oper} {a : Act} {Q : Exit → Act → World → Prop} (hgd : o.guard = none) (s x : Operand) (hty : o.type = 60)
    (ho : o.op = .call { callee := .builtin .append, args := #[s, x], argTypes := #[60, 60] }) (u : Value) (ss : List ByteArray) (hs : a.eval s = .slice none 0 0) (hx : a.eval x = u) (hL : Lf w u ss) (hn : ss.length ≤ 10000) (base : Nat) (hb : base ≤ w.heap.size)
    (K : ∀ v' w', w'.ownsRow base 9 1 v' ss.length (txC ss) → Below w.heap.size w w' → wpList Try.prog ops Q rest (a.put o.dst v') w') : wpList Try.prog ops Q (o :: rest) a w := by
  rcases Nat.eq_zero_or_pos ss.length with h0 | h0
  · obtain rfl := List.length_eq_zero_iff.1 h0
    obtain ⟨p, c, rfl, _⟩ := hL
    exact wpList_append_givenW w hgd s x _ ho _ _ hs hx (by rw [hty]; exact append_emptyS p c w) (K _ _ (World.ownsRow_nil _ _ _ _) (Below.refl _ _))
  · obtain ⟨i0, hi, hi0, hi1, hi2⟩ := info_parts infoStr
    obtain ⟨g, off, cap, rfl, _, _, hc⟩ := hL.at h0
    refine wpList_append_own w hgd s x _ ho base 9 i0 (.string ⟨#[]⟩) 1 16 Try.underlying60 hi hi0 hi1 hi2 rfl (by decide) (.slice none 0 0) 0 [] hs (World.ownsRow_nil _ _ _ _) ⟨g, off, none⟩ ss.length cap (txC ss) hx (by simp [txC]) ?_ ?_ (by unfold maxLen; omega) (by omega) hb ?_
    · intro j u hj
      obtain ⟨h1, rfl⟩ := txC_get ss j u hj
      rw [Addr.add_lit]
      exact hc j h1
    · intro u hu
      simp only [txC, List.mem_map] at hu
      obtain ⟨t, _, rfl⟩ := hu
      rfl
    · intro v' w' h1 h2 _
      rw [Nat.zero_add, List.nil_append] at h1
      exact K v' w' h1 (below_grown (Below.refl _ _) h2 (fun k hk => by cases hk) (Nat.le_refl _))
theorem copyP (w : World) {ops : Array Oper} {rest : List Oper} {o : Oper} {a : Act} {Q : Exit → Act → World → Prop} (hgd : o.guard = none) (s x : Operand) (hty : o.type = 26)
    (ho : o.op = .call { callee := .builtin .append, args := #[s, x], argTypes := #[26, 26] }) (u : Value) (L : List (Pt × Value)) (hs : a.eval s = .slice none 0 0) (hx : a.eval x = u) (hL : PR w u L) (hn : L.length ≤ 10000) (base : Nat) (hb : base ≤ w.heap.size)
    (K : ∀ v' w', w'.ownsRow base 62 4 v' L.length (ptC L) → Below w.heap.size w w' → wpList Try.prog ops Q rest (a.put o.dst v') w') : wpList Try.prog ops Q (o :: rest) a w := by
  rcases Nat.eq_zero_or_pos L.length with h0 | h0
  · obtain rfl := List.length_eq_zero_iff.1 h0
    obtain ⟨⟨p, c, rfl, _⟩, _⟩ := hL
    exact wpList_append_givenW w hgd s x _ ho _ _ hs hx (by rw [hty]; exact append_emptyP p c w) (K _ _ (World.ownsRow_nil _ _ _ _) (Below.refl _ _))
  · obtain ⟨i0, hi, hi0, hi1, hi2⟩ := info_parts infoPath3
    obtain ⟨g, off, cap, rfl, hc⟩ := hL.at h0
    refine wpList_append_own w hgd s x _ ho base 62 i0 (.agg #[.int .i64 0, .string ⟨#[]⟩, .string ⟨#[]⟩, .slice none 0 0]) 4 64 Try.underlying26 hi hi0 hi1 hi2 rfl (by decide) (.slice none 0 0) 0 [] hs (World.ownsRow_nil _ _ _ _) ⟨g, off, none⟩ L.length cap (ptC L) hx (ptC_len L) ?_ ?_ (by unfold maxLen; omega) (by omega) hb ?_
    · intro j u hj
      rw [Addr.add_lit]
      exact hc j u hj
    · exact ptC_one L (fun q hq => by obtain ⟨a, c, e, _⟩ := (hL.2 q hq).1; exact ⟨a, _, c, e⟩)
    · intro v' w' h1 h2 _
      rw [Nat.zero_add, List.nil_append] at h1
      exact K v' w' h1 (below_grown (Below.refl _ _) h2 (fun k hk => by cases hk) (Nat.le_refl _))
theorem txC_set (ss : List ByteArray) (k : Nat) (t : ByteArray) : (txC ss).set k (.string t) = txC (ss.set k t) := by simp [txC, List.map_set]
/-- The rest of a row of texts moved one to the left. -/
theorem own_shiftS {w : World} {base g cap n : Nat} {l : List ByteArray} (h : w.ownsRow base 9 1 (.slice (some ⟨g, 0, none⟩) n cap) n (txC l)) (hl : l.length = n) (i : Nat) (hi : i < n) (ad : Addr) (c : Nat) (ty : TypeId) (hn : n ≤ 1000000)
    (had : ad = ⟨g, i + 1, none⟩ ∨ n - (i + 1) = 0) :
    ∃ W, (Builtin.append_ #[60, 60] ty #[.slice (some ⟨g, 0, none⟩) i cap, .slice (some ad) (n - (i + 1)) c]).run Try.prog w = .ok (.slice (some ⟨g, 0, none⟩) (n - 1) cap) W ∧ Lf W (.slice (some ⟨g, 0, none⟩) (n - 1) cap) (l.eraseIdx i) ∧ Off g w W := by
  obtain ⟨i0, hi0, hz0, hz1, hz2⟩ := info_parts infoStr
  rcases h.2 with ⟨h1, _⟩ | ⟨g', cap', cur, h1, hb, hB, hnc, hcm, hcs, ht⟩
  · cases h1
  · injection h1 with h1 h2 h3
    injection h1 with h1
    injection h1 with h1
    subst h1 h3
    have hB' : w.heap[g]? = some (.cells cur 9 (0, 0)) := hB
    have hdl : (l.drop (i + 1)).length = n - (i + 1) := by rw [List.length_drop, hl]
    have htl : ∀ m : List ByteArray, (txC m).length = m.length := fun m => by simp [txC]
    have hcells := h.cells (g := g) rfl
    have hrun := run_append_room (P := Try.prog) w 60 ty 9 i0 Try.underlying60 hi0 g i cap cur hB' ad (n - (i + 1)) c (txC (l.drop (i + 1))) (by rw [htl, hdl, hz1, Nat.mul_one]) (by
      intro j u hj
      obtain ⟨hj1, rfl⟩ := txC_get _ j u hj
      rw [hdl] at hj1
      rcases had with e | e
      · subst e
        have hj2 : (txC l)[i + 1 + j]? = some (.string (l.drop (i + 1))[j]) := by
          simp only [txC, List.getElem?_map, List.getElem_drop]
          rw [List.getElem?_eq_getElem (by omega)]
          rfl
        have := hcells _ _ hj2
        rw [Addr.add_lit, Nat.zero_add] at this
        rw [Addr.add_lit]
        exact this
      · omega) (by
      intro u hu
      simp only [txC, List.mem_map] at hu
      obtain ⟨t, _, rfl⟩ := hu
      rfl) (by omega) (by rw [htl, hdl, hz1, hcs, Nat.mul_one]; omega)
    rw [show i + (n - (i + 1)) = n - 1 by omega, hz1, Nat.mul_one] at hrun
    refine ⟨_, hrun, ?_, (Off.refl _ _).setRow _⟩
    have hlen : (l.eraseIdx i).length = n - 1 := by rw [List.length_eraseIdx_of_lt (by omega), hl]
    rw [← hlen]
    refine Lf.mk (by rw [hlen]; omega) (by unfold maxLen at hcm; omega) (fun j hj => ?_)
    have hX : Blk (w.setRow g (cur.toList.take i ++ txC (l.drop (i + 1)) ++ cur.toList.drop (i + (txC (l.drop (i + 1))).length)).toArray) g _ 9 := setRow_heap w g cur _ _ (0, 0) hB'
    refine hX.cell ?_
    rw [Nat.zero_add]
    have t1 : cur.toList.take i = txC (l.take i) := by
      have : (cur.toList.take (n * 1)).take i = txC (l.take i) := by
        rw [ht]; simp [txC, List.map_take]
      rwa [List.take_take, Nat.min_eq_left (by omega)] at this
    rw [t1]
    simp only [List.getElem?_toArray]
    have e3 : txC (l.take i) ++ txC (l.drop (i + 1)) = txC (l.eraseIdx i) := by rw [List.eraseIdx_eq_take_drop_succ]; simp [txC]
    rw [e3, List.getElem?_append_left (by rw [htl]; exact hj)]
    simp [txC, hj]
theorem bent_results {w' : World} {c0 c1 : Value} {r : Nat} (X : Blk w' r #[c0, c1] 28) {t : Array Value} (h1 : t.getD 4 undef = .pointer (some ⟨r, 0, none⟩)) :
    (results Try.f16 t).run Try.prog w' = .ok (.agg #[c0, c1]) w' := by
  have a0 := X.cell (o := 0) rfl
  have a1 := X.cell (o := 1) rfl
  simp only [Array.getD_eq_getD_getElem?] at h1
  simp [results, Try.results16, go_sem, h1, a0, a1]
end Go.Proofs.Ytakdnkknmjahoaa
