/- What stands over leaves, and the digests beside a way: the program's answers. -/
import Derived.Test.YtpcafjbebhcilaaGreatTm19
import Derived.Test.YtpcafjbebhcilaaGreatTm13
namespace Go.Proofs.YtpcafjbebhcilaaGreat
open Go.RowKit
set_option linter.unusedSimpArgs false
set_option linter.unusedVariables false
variable {p b x y : Nat} {T : List ByteArray} {S : List (Int × ByteArray)}

/-- A slice of texts that can be cut: its cells. -/
def Lf (w : World) (v : Value) (ls : List ByteArray) : Prop :=
  ∃ a cap, v = .slice a ls.length cap ∧ ls.length ≤ cap ∧ cap ≤ 9223372036854775807 ∧ ∀ i (h : i < ls.length), ∃ g off, a = some ⟨g, off, none⟩ ∧ w.cell? ⟨g, off + i, none⟩ = some (.string ls[i])
theorem Lf.at {w : World} {v : Value} {ls : List ByteArray} (h : Lf w v ls) (h0 : 0 < ls.length) : ∃ g off cap, v = .slice (some ⟨g, off, none⟩) ls.length cap ∧ ls.length ≤ cap ∧ cap ≤ 9223372036854775807 ∧ ∀ i (h : i < ls.length), w.cell? ⟨g, off + i, none⟩ = some (.string ls[i]) := by
  obtain ⟨a, cap, rfl, hc, hm, hx⟩ := h
  obtain ⟨g, off, rfl, _⟩ := hx 0 h0
  refine ⟨g, off, cap, rfl, hc, hm, fun i hi => ?_⟩
  obtain ⟨g', off', e, h2⟩ := hx i hi
  simp only [Option.some.injEq, Addr.mk.injEq, and_true] at e
  obtain ⟨rfl, rfl⟩ := e
  exact h2
theorem Lf.mk {w : World} {g off cap : Nat} {ls : List ByteArray} (hc : ls.length ≤ cap) (hm : cap ≤ 9223372036854775807) (h : ∀ i (h : i < ls.length), w.cell? ⟨g, off + i, none⟩ = some (.string ls[i])) : Lf w (.slice (some ⟨g, off, none⟩) ls.length cap) ls :=
  ⟨_, cap, rfl, hc, hm, fun i hi => ⟨g, off, rfl, h i hi⟩⟩
theorem Lf.off2 {w w' : World} {v : Value} {ls : List ByteArray} (h : Lf w v ls) (hb : Book w p b x y T S) (ho : Off2 x y w w') : Lf w' v ls := by
  obtain ⟨a, cap, rfl, hc, hm, hx⟩ := h
  exact ⟨a, cap, rfl, hc, hm, fun i hi => by obtain ⟨g, off, e, h2⟩ := hx i hi; exact ⟨g, off, e, keepCell2 hb ho h2⟩⟩
theorem Lf.below {w w' : World} {v : Value} {ls : List ByteArray} (h : Lf w v ls) (ho : Below w.heap.size w w') : Lf w' v ls := by
  obtain ⟨a, cap, rfl, hc, hm, hx⟩ := h
  exact ⟨a, cap, rfl, hc, hm, fun i hi => by obtain ⟨g, off, e, h2⟩ := hx i hi; exact ⟨g, off, e, keepCell ho h2⟩⟩
theorem lf_take {w : World} {g off cap k : Nat} {ls : List ByteArray} (hk : k ≤ ls.length) (hc : ls.length ≤ cap) (hm : cap ≤ 9223372036854775807) (h : ∀ i (h : i < ls.length), w.cell? ⟨g, off + i, none⟩ = some (.string ls[i])) : Lf w (.slice (some ⟨g, off, none⟩) k cap) (ls.take k) := by
  have e : (ls.take k).length = k := by rw [List.length_take]; omega
  have := Lf.mk (w := w) (g := g) (off := off) (cap := cap) (ls := ls.take k) (by omega) hm (fun i hi => by rw [List.getElem_take]; exact h i (by omega))
  rw [e] at this
  exact this
theorem lf_drop {w : World} {g off cap k : Nat} {ls : List ByteArray} (hk : k ≤ ls.length) (hc : ls.length ≤ cap) (hm : cap ≤ 9223372036854775807) (h : ∀ i (h : i < ls.length), w.cell? ⟨g, off + i, none⟩ = some (.string ls[i])) : Lf w (.slice (some ⟨g, off + k, none⟩) (ls.length - k) (cap - k)) (ls.drop k) := by
  have e : (ls.drop k).length = ls.length - k := by rw [List.length_drop]
  have := Lf.mk (w := w) (g := g) (off := off + k) (cap := cap - k) (ls := ls.drop k) (by omega) (by omega) (fun i hi => by rw [List.getElem_drop, Nat.add_assoc]; exact h (k + i) (by omega))
  rw [e] at this
  exact this

/-- What a call that asks digests of a book leaves: more numbered, all else as it was. -/
structure Grew (x y p b : Nat) (T : List ByteArray) (S : List (Int × ByteArray)) (w : World) (c : Nat) (T' : List ByteArray) (w' : World) : Prop where
  ext : Ext T T'
  len : T'.length ≤ T.length + c
  book : Book w' p b x y T' S
  off : Off2 x y w w'
theorem Asked.grew {s : ByteArray} {w w' : World} {e : Ending} (h : Asked x y p b T S s w e w') : Grew x y p b T S w 1 (note T s) w' := ⟨Ext.note T s, note_len T s, h.book, h.off⟩
theorem Grew.trans {T' T'' : List ByteArray} {w w1 w2 : World} {c d : Nat} (h : Grew x y p b T S w c T' w1) (k : Grew x y p b T' S w1 d T'' w2) : Grew x y p b T S w (c + d) T'' w2 :=
  ⟨h.ext.trans k.ext, by have := h.len; have := k.len; omega, k.book, h.off.trans k.off⟩
theorem Grew.refl {w : World} (h : Book w p b x y T S) : Grew x y p b T S w 0 T w := ⟨Ext.refl T, by omega, h, Off2.refl _ _ _⟩
theorem Grew.le {T' : List ByteArray} {w w' : World} {c d : Nat} (h : Grew x y p b T S w c T' w') (hd : c ≤ d) : Grew x y p b T S w d T' w' := ⟨h.ext, by have := h.len; omega, h.book, h.off⟩
theorem Grew.below {T' : List ByteArray} {w w' w'' : World} {c : Nat} (h : Grew x y p b T S w c T' w') (k : Below w'.heap.size w' w'') : Grew x y p b T S w c T' w'' := ⟨h.ext, h.len, h.book.below k, h.off.trans (Off2.of_below k)⟩

set_option maxHeartbeats 4000000 in
set_option maxRecDepth 100000 in
theorem topOf_calls : ∀ (n : Nat) (ls : List ByteArray) (v : Value) (T : List ByteArray) (w : World), ls.length = n → n ≤ 4096 → Lf w v ls → Book w p b x y T S → T.length + n < 1000000 → (∀ s ∈ ls, s.size ≤ 32) →
    Calls Tryz.prog 52 #[.pointer (some ⟨p, 0, none⟩), v] w fun e w' => ∃ a T', e = .returned (.string a) ∧ Top T' ls a ∧ Grew x y p b T S w (n - 1) T' w' := by
  intro n
  induction n using Nat.strongRecOn with
  | _ n ih =>
  intro ls v T w hn hn2 hl hB hT hs
  by_cases h0 : n = 0
  · have e : ls = [] := List.length_eq_zero_iff.1 (by omega)
    subst e
    obtain ⟨a, cap, rfl, _⟩ := hl
    go_enter Tryz.func52, Tryz.ntmps52
    go_wp2
    go_ret
    exact ⟨_, T, rfl, .none, (Grew.refl hB).le (Nat.zero_le _)⟩
  by_cases h1 : n = 1
  · obtain ⟨g, off, cap, rfl, hc, hm, hx⟩ := hl.at (by omega)
    obtain ⟨s, rfl⟩ := List.length_eq_one_iff.1 (hn.trans h1)
    have c0 := hx 0 (by simp)
    simp only [List.getElem_cons_zero, Nat.add_zero] at c0
    go_enter Tryz.func52, Tryz.ntmps52
    go_wp2
    go_ret
    exact ⟨_, T, rfl, .one _, (Grew.refl hB).le (Nat.zero_le _)⟩
  have h2 : 2 ≤ n := by omega
  obtain ⟨g, off, cap, rfl, hc, hm, hx⟩ := hl.at (by omega)
  obtain ⟨hk1, hk2⟩ := hf_bounds h2
  have hsp := fun wx => split_calls n wx h2 (by omega)
  have hL := lf_take (k := hf n) (by omega) hc hm hx
  have hR := lf_drop (k := hf n) (by omega) hc hm hx
  rw [hn] at hc ⊢ hR
  have d0 : decide ((n : Int) = 0) = false := by simp only [decide_eq_false_iff_not]; omega
  have d1 : decide ((n : Int) = 1) = false := by simp only [decide_eq_false_iff_not]; omega
  have HS : Hid _ := hsp
  clear hsp hx hl
  go_enter Tryz.func52, Tryz.ntmps52
  go_wp2_with fail
  refine (HS.out _).mono ?_
  rintro e w1 ⟨rfl, rfl⟩
  go_wp2_with fail
  have hd : Below w1.heap.size w1 w1.drew := (Below.refl _ _).drew
  have H1 := ih (hf n) hk2 _ _ T w1.drew (by rw [List.length_take]; omega) (by omega) (hL.below hd) (hB.below hd) (by omega) (fun s h => hs s (List.mem_of_mem_take h))
  have H2 := fun (T1 : List ByteArray) (wx : World) (G1 : Grew x y p b T S w1.drew (hf n - 1) T1 wx) => ih (n - hf n) (by omega) _ _ T1 wx (by rw [List.length_drop]; omega) (by omega) ((hR.below hd).off2 (hB.below hd) G1.off) G1.book (by have := G1.len; omega) (fun s h => hs s (List.mem_of_mem_drop h))
  have H3 := fun (T2 : List ByteArray) (wx : World) (a1 a2 : ByteArray) (h : Book wx p b x y T2 S) (h2 : T2.length < 1000000) (t1 : Top T2 (ls.take (hf n)) a1) (t2 : Top T2 (ls.drop (hf n)) a2) => nodeOf_calls a1 a2 wx h h2 (Nat.le_trans (t1.small (fun s h => hs s (List.mem_of_mem_take h))) (by decide)) (Nat.le_trans (t2.small (fun s h => hs s (List.mem_of_mem_drop h))) (by decide))
  have HH1 : Hid _ := H1
  have HH2 : Hid _ := H2
  have HH3 : Hid _ := H3
  clear H1 H2 H3 ih
  refine wp_region_any (by kernel_rfl) ?_
  change wpAny _ _ _ _ _ _ _ (World.drew _)
  refine wpAny_take (i := 0) (v := (.pointer (some ⟨p, 0, none⟩))) rfl (by kernel_rfl) (by kernel_rfl) (by kernel_rfl) (fun _ _ _ h => h) (Or.inl ⟨by rfl, fun w => by go_simp⟩) ?_
  refine wpAny_take (i := 1) (v := (.pointer (some ⟨p, 0, none⟩))) rfl (by kernel_rfl) (by kernel_rfl) (by kernel_rfl) (fun _ _ _ h => h) (Or.inl ⟨by rfl, fun w => by go_simp⟩) ?_
  refine wpAny_take (i := 2) (v := (.slice (some ⟨g, off, none⟩) n cap)) rfl (by kernel_rfl) (by kernel_rfl) (by kernel_rfl) (fun _ _ _ h => h) (Or.inl ⟨by rfl, fun w => by go_simp⟩) ?_
  refine wpAny_take (i := 3) (v := (.int .i64 (hf n))) rfl (by kernel_rfl) (by kernel_rfl) (by kernel_rfl) (fun _ _ _ h => h) (Or.inl ⟨by rfl, fun w => by go_simp⟩) ?_
  refine wpAny_take (i := 4) (v := (.slice (some ⟨g, off, none⟩) (hf n) cap)) rfl (by kernel_rfl) (by kernel_rfl) (by kernel_rfl) (fun _ _ _ h => h) (Or.inl ⟨by rfl, fun w => by go_simp; intro h; omega⟩) ?_
  refine wpAny_take (i := 6) (v := (.pointer (some ⟨p, 0, none⟩))) rfl (by kernel_rfl) (by kernel_rfl) (by kernel_rfl) (fun _ _ _ h => h) (Or.inl ⟨by rfl, fun w => by go_simp⟩) ?_
  refine wpAny_take (i := 7) (v := (.slice (some ⟨g, off, none⟩) n cap)) rfl (by kernel_rfl) (by kernel_rfl) (by kernel_rfl) (fun _ _ _ h => h) (Or.inl ⟨by rfl, fun w => by go_simp⟩) ?_
  refine wpAny_take (i := 8) (v := (.int .i64 (hf n))) rfl (by kernel_rfl) (by kernel_rfl) (by kernel_rfl) (fun _ _ _ h => h) (Or.inl ⟨by rfl, fun w => by go_simp⟩) ?_
  refine wpAny_take (i := 9) (v := (.slice (some ⟨g, off + hf n, none⟩) (n - hf n) (cap - hf n))) rfl (by kernel_rfl) (by kernel_rfl) (by kernel_rfl) (fun _ _ _ h => h) (Or.inl ⟨by rfl, fun w => by go_simp; rw [if_pos (by omega), if_neg (by omega)]⟩) ?_
  refine wpAny_ready (rs := [5]) (by kernel_rfl) (by simp) ?_
  refine AllReady.cons rfl (fun K hK => ?_) AllReady.nil
  go_simp
  refine Calls.mono HH1.out ?_
  rintro e w2 ⟨a1, T1, rfl, t1, G1⟩
  refine hK _ _ ?_
  clear hK
  have l1 := G1.len
  refine wpAny_ready (rs := [10]) (by kernel_rfl) (by simp) ?_
  refine AllReady.cons rfl (fun K hK => ?_) AllReady.nil
  go_simp
  refine Calls.mono (HH2.out _ _ G1) ?_
  rintro e w3 ⟨a2, T2, rfl, t2, G2⟩
  refine hK _ _ ?_
  clear hK
  have l2 := G2.len
  have t1' := t1.ext G2.ext
  refine wpAny_ready (rs := [11]) (by kernel_rfl) (by simp) ?_
  refine AllReady.cons rfl (fun K hK => ?_) AllReady.nil
  go_simp
  refine (HH3.out T2 _ a1 a2 G2.book (by omega) t1' t2).mono ?_
  rintro e w4 A
  obtain rfl := A.ret
  refine hK _ _ ?_
  clear hK
  refine wpAny_ready (rs := [12]) (by kernel_rfl) (by simp) ?_
  refine AllReady.cons rfl (fun K hK => ?_) AllReady.nil
  go_simp
  refine hK _ _ ?_
  clear hK
  refine wpAny_done (by kernel_rfl) ?_ _
  go_wp2
  go_ret
  have G0 : Grew x y p b T S w1 0 T w1.drew := (Grew.refl hB).below hd
  refine ⟨_, rfl, _, ?_, (((G0.trans G1).trans G2).trans A.grew).le (by omega)⟩
  have n1 := Ext.note T2 (nodeT a1 a2)
  subst hn
  exact .node ls a1 a2 (by omega) (t1'.ext n1) (t2.ext n1) (mem_noted _ _)
end Go.Proofs.YtpcafjbebhcilaaGreat
