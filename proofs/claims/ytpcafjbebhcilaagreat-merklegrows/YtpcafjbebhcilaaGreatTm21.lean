/- The digests beside a way: the program's answer. -/
import Derived.Test.YtpcafjbebhcilaaGreatTm20
import Derived.Deep.RegionLaw
namespace Go.Proofs.YtpcafjbebhcilaaGreat
open Go.RowKit
set_option linter.unusedSimpArgs false
set_option linter.unusedVariables false
variable {p b x y : Nat} {T : List ByteArray} {S : List (Int × ByteArray)}

theorem wrapI (z : Int) (h : -100000000 ≤ z) (h2 : z ≤ 100000000) : IntKind.i64.wrap z = z := by
  rw [IntKind.wrap_i64]; omega
def txC (l : List ByteArray) : List Value := l.map Value.string
theorem txC_snoc (l : List ByteArray) (s : ByteArray) : txC (l ++ [s]) = txC l ++ [.string s] := by simp [txC]
theorem off2_grown {w w1 w2 : World} {row : Option Nat} (h : Off2 x y w w1) (hg : w1.grownBy w2 row) (hr : ∀ k, row = some k → w.heap.size ≤ k) : Off2 x y w w2 :=
  ⟨hg.os.trans h.os, hg.tape.trans h.tape, hg.output.trans h.output, Nat.le_trans h.size hg.size, fun k hk ha hb => (hg.block k (Nat.lt_of_lt_of_le hk h.size) (fun e => by have := hr k e.symm; omega)).trans (h.block k hk ha hb)⟩
theorem Grew.grown {T' : List ByteArray} {w w' w'' : World} {c : Nat} (h : Grew x y p b T S w c T' w') {base : Nat} {e : TypeId} {sz : Nat} {v : Value} {n : Nat} {xs : List Value} (ho : w'.ownsRow base e sz v n xs) (h1 : e ≠ 60) (h2 : e ≠ 95) (hb : w.heap.size ≤ base) (hg : w'.grownBy w'' v.ownBlock) : Grew x y p b T S w c T' w'' :=
  ⟨h.ext, h.len, h.book.grown hg (h.book.apart ho h1 h2), off2_grown h.off hg (fun k hk => Nat.le_trans hb (ho.lt k hk).1)⟩
theorem own_new (w : World) (s : Value) (t : TypeId) : ∀ j u, [s][j]? = some u → (w.alloc (.cells #[s] t)).cell? ((⟨w.heap.size, 0, none⟩ : Addr).add j) = some u := cell_one_new w s t
theorem step_ifM {P : Program} {ops : Array Oper} {o : Oper} {a : Act} {w : World} {K : Act → World → Prop} {Q : Exit → Act → World → Prop} {E : Prop} (hg : o.guard = none) (h : Oper.wp P o a w K Q) :
    if Region.wanted o (yielded ops a.tmps) = true then Oper.wp P o a w K Q else E := by
  have hw : Region.wanted o (yielded ops a.tmps) = true := by simp [Region.wanted, hg]
  rw [if_pos hw]; exact h
set_option maxHeartbeats 4000000 in
set_option maxRecDepth 100000 in
theorem sidesOf_calls : ∀ (n : Nat) (ls : List ByteArray) (v : Value) (i : Nat) (T : List ByteArray) (w : World), ls.length = n → n ≤ 4096 → i < n → Lf w v ls → Book w p b x y T S → T.length + n < 1000000 → (∀ s ∈ ls, s.size ≤ 32) →
    Calls Tryz.prog 81 #[.pointer (some ⟨p, 0, none⟩), v, .int .i64 i] w fun e w' => ∃ sv ss T', e = .returned sv ∧ Sides T' ls i ss ∧ w'.ownsRow w.heap.size 9 1 sv ss.length (txC ss) ∧ Grew x y p b T S w (n - 1) T' w' := by
  obtain ⟨i0, hi, hi0, hi1, hi2⟩ := info_parts infoStr
  intro n
  induction n using Nat.strongRecOn with
  | _ n ih =>
  intro ls v i T w hn hn2 hin hl hB hT hs
  by_cases h1 : n = 1
  · obtain ⟨g, off, cap, rfl, hc, hm, hx⟩ := hl.at (by omega)
    obtain ⟨s, rfl⟩ := List.length_eq_one_iff.1 (hn.trans h1)
    obtain rfl : i = 0 := by omega
    go_enter Tryz.func81, Tryz.ntmps81
    go_wp2
    go_ret
    exact ⟨_, [], T, rfl, .one _, World.ownsRow_nil _ _ _ _, (Grew.refl hB).le (Nat.zero_le _)⟩
  have h2 : 2 ≤ n := by omega
  obtain ⟨g, off, cap, rfl, hc, hm, hx⟩ := hl.at (by omega)
  obtain ⟨hk1, hk2⟩ := hf_bounds h2
  have hsp := fun wx => split_calls n wx h2 (by omega)
  have hL := lf_take (k := hf n) (by omega) hc hm hx
  have hR := lf_drop (k := hf n) (by omega) hc hm hx
  rw [hn] at hc ⊢ hR
  have d1 : decide ((n : Int) = 1) = false := by simp only [decide_eq_false_iff_not]; omega
  have HS : Hid _ := hsp
  clear hsp hx hl
  by_cases hil : i < hf n
  · have di : decide ((i : Int) < (hf n : Int)) = true := by simp only [decide_eq_true_eq]; omega
    go_enter Tryz.func81, Tryz.ntmps81
    go_wp2_with fail
    refine (HS.out _).mono ?_
    rintro e w1 ⟨rfl, rfl⟩
    go_wp2_with fail
    have hd : Below w1.heap.size w1 w1.drew := (Below.refl _ _).drew
    have H1 := ih (hf n) hk2 _ _ i T w1.drew (by rw [List.length_take]; omega) (by omega) hil (hL.below hd) (hB.below hd) (by omega) (fun s h => hs s (List.mem_of_mem_take h))
    have H2 := fun (T1 : List ByteArray) (wx : World) (G1 : Grew x y p b T S w1.drew (hf n - 1) T1 wx) => topOf_calls (p := p) (b := b) (x := x) (y := y) (S := S) (n - hf n) _ _ T1 wx (by rw [List.length_drop]; omega) (by omega) ((hR.below hd).off2 (hB.below hd) G1.off) G1.book (by have := G1.len; omega) (fun s h => hs s (List.mem_of_mem_drop h))
    have HH1 : Hid _ := H1
    have HH2 : Hid _ := H2
    clear H1 H2 ih
    refine wp_region_any (by kernel_rfl) ?_
    change wpAny _ _ _ _ _ _ _ (World.drew _)
    refine wpAny_take (i := 0) (v := (.pointer (some ⟨p, 0, none⟩))) rfl (by kernel_rfl) (by kernel_rfl) (by kernel_rfl) (fun _ _ _ h => h) (Or.inl ⟨by rfl, fun w => by go_simp⟩) ?_
    refine wpAny_take (i := 1) (v := (.slice (some ⟨g, off, none⟩) n cap)) rfl (by kernel_rfl) (by kernel_rfl) (by kernel_rfl) (fun _ _ _ h => h) (Or.inl ⟨by rfl, fun w => by go_simp⟩) ?_
    refine wpAny_take (i := 2) (v := (.int .i64 (hf n))) rfl (by kernel_rfl) (by kernel_rfl) (by kernel_rfl) (fun _ _ _ h => h) (Or.inl ⟨by rfl, fun w => by go_simp⟩) ?_
    refine wpAny_take (i := 3) (v := (.slice (some ⟨g, off, none⟩) (hf n) cap)) rfl (by kernel_rfl) (by kernel_rfl) (by kernel_rfl) (fun _ _ _ h => h) (Or.inl ⟨by rfl, fun w => by go_simp; intro h; omega⟩) ?_
    refine wpAny_take (i := 4) (v := (.int .i64 i)) rfl (by kernel_rfl) (by kernel_rfl) (by kernel_rfl) (fun _ _ _ h => h) (Or.inl ⟨by rfl, fun w => by go_simp⟩) ?_
    refine wpAny_take (i := 6) (v := (.pointer (some ⟨p, 0, none⟩))) rfl (by kernel_rfl) (by kernel_rfl) (by kernel_rfl) (fun _ _ _ h => h) (Or.inl ⟨by rfl, fun w => by go_simp⟩) ?_
    refine wpAny_take (i := 7) (v := (.slice (some ⟨g, off, none⟩) n cap)) rfl (by kernel_rfl) (by kernel_rfl) (by kernel_rfl) (fun _ _ _ h => h) (Or.inl ⟨by rfl, fun w => by go_simp⟩) ?_
    refine wpAny_take (i := 8) (v := (.int .i64 (hf n))) rfl (by kernel_rfl) (by kernel_rfl) (by kernel_rfl) (fun _ _ _ h => h) (Or.inl ⟨by rfl, fun w => by go_simp⟩) ?_
    refine wpAny_take (i := 9) (v := (.slice (some ⟨g, off + hf n, none⟩) (n - hf n) (cap - hf n))) rfl (by kernel_rfl) (by kernel_rfl) (by kernel_rfl) (fun _ _ _ h => h) (Or.inl ⟨by rfl, fun w => by go_simp; rw [if_pos (by omega), if_neg (by omega)]⟩) ?_
    refine wpAny_ready (rs := [5]) (by kernel_rfl) (by simp) ?_
    refine AllReady.cons rfl (fun K hK => ?_) AllReady.nil
    go_simp
    refine Calls.mono HH1.out ?_
    rintro e w2 ⟨sv, ss, T1, rfl, t1, o1, G1⟩
    refine hK _ _ ?_
    clear hK
    have l1 := G1.len
    refine wpAny_ready (rs := [10]) (by kernel_rfl) (by simp) ?_
    refine AllReady.cons rfl (fun K hK => ?_) AllReady.nil
    go_simp
    refine Calls.mono (HH2.out _ _ G1) ?_
    rintro e w3 ⟨a2, T2, rfl, t2, G2⟩
    refine hK _ _ ?_
    clear hK
    have l2 := G2.len
    have o2 := own_off2 G1.book o1 G2.off
    have z2 := G2.off.size
    have z1 := G1.off.size
    refine wpAny_ready (rs := [11]) (by kernel_rfl) (by simp) ?_
    refine AllReady.cons rfl (fun K hK => ?_) AllReady.nil
    go_simp
    refine hK _ _ ?_
    clear hK
    refine wpAny_ready (rs := [12]) (by kernel_rfl) (by simp) ?_
    refine AllReady.cons rfl (fun K hK => ?_) AllReady.nil
    refine step_ifM rfl ?_
    refine wp_append_own _ (.tmp 22) (.tmp 28) 62 rfl w1.heap.size 9 i0 (.string ⟨#[]⟩) 1 16 Tryz.underlying62 hi hi0 hi1 hi2 rfl (by decide) sv ss.length (txC ss) rfl (o2.alloc _) ⟨w3.heap.size, 0, none⟩ 1 1 [.string a2] rfl rfl ?_ ?_ ?_ ?_ ?_ ?_
    · exact cell_one_new _ _ _
    · intro u hu
      simp at hu
      subst hu; rfl
    · have := t1.hgt.le; simp only [List.length_take, List.length_drop] at this; unfold maxLen; omega
    · have := t1.hgt.le; simp only [List.length_take, List.length_drop] at this; omega
    · simp at z1 ⊢; omega
    intro v' w4 hown' hgrow _
    have G0 : Grew x y p b T S w1 0 T w1.drew := (Grew.refl hB).below hd
    have GG := (((G0.trans G1).trans G2).below ((Below.refl w3.heap.size w3).alloc (Nat.le_refl _) (.cells #[.string a2] 9))).grown (o2.alloc _) (by decide) (by decide) (by simp) hgrow
    refine hK _ _ ?_
    clear hK
    refine wpAny_ready (rs := [13]) (by kernel_rfl) (by simp) ?_
    refine AllReady.cons rfl (fun K hK => ?_) AllReady.nil
    go_simp
    refine hK _ _ ?_
    clear hK
    refine wpAny_done (by kernel_rfl) ?_ _
    go_wp2
    go_ret
    refine ⟨_, rfl, ss ++ [a2], T2, by subst hn; exact .left ls i ss a2 (by omega) hil (t1.ext G2.ext) t2, ?_, GG.le (by omega)⟩
    rw [txC_snoc, List.length_append]
    exact hown'
  · have di : decide ((i : Int) < (hf n : Int)) = false := by simp only [decide_eq_false_iff_not]; omega
    go_enter Tryz.func81, Tryz.ntmps81
    go_wp2_with fail
    refine (HS.out _).mono ?_
    rintro e w1 ⟨rfl, rfl⟩
    go_wp2_with fail
    have hd : Below w1.heap.size w1 w1.drew := (Below.refl _ _).drew
    have H1 := ih (n - hf n) (by omega) _ _ (i - hf n) T w1.drew (by rw [List.length_drop]; omega) (by omega) (by omega) (hR.below hd) (hB.below hd) (by omega) (fun s h => hs s (List.mem_of_mem_drop h))
    have H2 := fun (T1 : List ByteArray) (wx : World) (G1 : Grew x y p b T S w1.drew (n - hf n - 1) T1 wx) => topOf_calls (p := p) (b := b) (x := x) (y := y) (S := S) (hf n) _ _ T1 wx (by rw [List.length_take]; omega) (by omega) ((hL.below hd).off2 (hB.below hd) G1.off) G1.book (by have := G1.len; omega) (fun s h => hs s (List.mem_of_mem_take h))
    have e1 : ((i - hf n : Nat) : Int) = (i : Int) - (hf n : Int) := by omega
    rw [e1] at H1
    have HH1 : Hid _ := H1
    have HH2 : Hid _ := H2
    clear H1 H2 ih e1
    refine wp_region_any (by kernel_rfl) ?_
    change wpAny _ _ _ _ _ _ _ (World.drew _)
    refine wpAny_take (i := 0) (v := (.pointer (some ⟨p, 0, none⟩))) rfl (by kernel_rfl) (by kernel_rfl) (by kernel_rfl) (fun _ _ _ h => h) (Or.inl ⟨by rfl, fun w => by go_simp⟩) ?_
    refine wpAny_take (i := 1) (v := (.slice (some ⟨g, off, none⟩) n cap)) rfl (by kernel_rfl) (by kernel_rfl) (by kernel_rfl) (fun _ _ _ h => h) (Or.inl ⟨by rfl, fun w => by go_simp⟩) ?_
    refine wpAny_take (i := 2) (v := (.int .i64 (hf n))) rfl (by kernel_rfl) (by kernel_rfl) (by kernel_rfl) (fun _ _ _ h => h) (Or.inl ⟨by rfl, fun w => by go_simp⟩) ?_
    refine wpAny_take (i := 3) (v := (.slice (some ⟨g, off + hf n, none⟩) (n - hf n) (cap - hf n))) rfl (by kernel_rfl) (by kernel_rfl) (by kernel_rfl) (fun _ _ _ h => h) (Or.inl ⟨by rfl, fun w => by go_simp; rw [if_pos (by omega), if_neg (by omega)]⟩) ?_
    refine wpAny_take (i := 4) (v := (.int .i64 i)) rfl (by kernel_rfl) (by kernel_rfl) (by kernel_rfl) (fun _ _ _ h => h) (Or.inl ⟨by rfl, fun w => by go_simp⟩) ?_
    refine wpAny_take (i := 5) (v := (.int .i64 (hf n))) rfl (by kernel_rfl) (by kernel_rfl) (by kernel_rfl) (fun _ _ _ h => h) (Or.inl ⟨by rfl, fun w => by go_simp⟩) ?_
    refine wpAny_take (i := 6) (v := (.int .i64 ((i : Int) - (hf n : Int)))) rfl (by kernel_rfl) (by kernel_rfl) (by kernel_rfl) (fun _ _ _ h => h) (Or.inl ⟨by rfl, fun w => by go_simp; exact wrapI _ (by omega) (by omega)⟩) ?_
    refine wpAny_take (i := 8) (v := (.pointer (some ⟨p, 0, none⟩))) rfl (by kernel_rfl) (by kernel_rfl) (by kernel_rfl) (fun _ _ _ h => h) (Or.inl ⟨by rfl, fun w => by go_simp⟩) ?_
    refine wpAny_take (i := 9) (v := (.slice (some ⟨g, off, none⟩) n cap)) rfl (by kernel_rfl) (by kernel_rfl) (by kernel_rfl) (fun _ _ _ h => h) (Or.inl ⟨by rfl, fun w => by go_simp⟩) ?_
    refine wpAny_take (i := 10) (v := (.int .i64 (hf n))) rfl (by kernel_rfl) (by kernel_rfl) (by kernel_rfl) (fun _ _ _ h => h) (Or.inl ⟨by rfl, fun w => by go_simp⟩) ?_
    refine wpAny_take (i := 11) (v := (.slice (some ⟨g, off, none⟩) (hf n) cap)) rfl (by kernel_rfl) (by kernel_rfl) (by kernel_rfl) (fun _ _ _ h => h) (Or.inl ⟨by rfl, fun w => by go_simp; intro h; omega⟩) ?_
    refine wpAny_ready (rs := [7]) (by kernel_rfl) (by simp) ?_
    refine AllReady.cons rfl (fun K hK => ?_) AllReady.nil
    go_simp
    refine Calls.mono HH1.out ?_
    rintro e w2 ⟨sv, ss, T1, rfl, t1, o1, G1⟩
    refine hK _ _ ?_
    clear hK
    have l1 := G1.len
    refine wpAny_ready (rs := [12]) (by kernel_rfl) (by simp) ?_
    refine AllReady.cons rfl (fun K hK => ?_) AllReady.nil
    go_simp
    refine Calls.mono (HH2.out _ _ G1) ?_
    rintro e w3 ⟨a2, T2, rfl, t2, G2⟩
    refine hK _ _ ?_
    clear hK
    have l2 := G2.len
    have o2 := own_off2 G1.book o1 G2.off
    have z2 := G2.off.size
    have z1 := G1.off.size
    refine wpAny_ready (rs := [13]) (by kernel_rfl) (by simp) ?_
    refine AllReady.cons rfl (fun K hK => ?_) AllReady.nil
    go_simp
    refine hK _ _ ?_
    clear hK
    refine wpAny_ready (rs := [14]) (by kernel_rfl) (by simp) ?_
    refine AllReady.cons rfl (fun K hK => ?_) AllReady.nil
    refine step_ifM rfl ?_
    refine wp_append_own _ (.tmp 37) (.tmp 43) 62 rfl w1.heap.size 9 i0 (.string ⟨#[]⟩) 1 16 Tryz.underlying62 hi hi0 hi1 hi2 rfl (by decide) sv ss.length (txC ss) rfl (o2.alloc _) ⟨w3.heap.size, 0, none⟩ 1 1 [.string a2] rfl rfl ?_ ?_ ?_ ?_ ?_ ?_
    · exact cell_one_new _ _ _
    · intro u hu
      simp at hu
      subst hu; rfl
    · have := t1.hgt.le; simp only [List.length_take, List.length_drop] at this; unfold maxLen; omega
    · have := t1.hgt.le; simp only [List.length_take, List.length_drop] at this; omega
    · simp at z1 ⊢; omega
    intro v' w4 hown' hgrow _
    have G0 : Grew x y p b T S w1 0 T w1.drew := (Grew.refl hB).below hd
    have GG := (((G0.trans G1).trans G2).below ((Below.refl w3.heap.size w3).alloc (Nat.le_refl _) (.cells #[.string a2] 9))).grown (o2.alloc _) (by decide) (by decide) (by simp) hgrow
    refine hK _ _ ?_
    clear hK
    refine wpAny_ready (rs := [15]) (by kernel_rfl) (by simp) ?_
    refine AllReady.cons rfl (fun K hK => ?_) AllReady.nil
    go_simp
    refine hK _ _ ?_
    clear hK
    refine wpAny_done (by kernel_rfl) ?_ _
    go_wp2
    go_ret
    refine ⟨_, rfl, ss ++ [a2], T2, by subst hn; exact .right ls i ss a2 (by omega) (by omega) (t1.ext G2.ext) t2, ?_, GG.le (by omega)⟩
    rw [txC_snoc, List.length_append]
    exact hown'
end Go.Proofs.YtpcafjbebhcilaaGreat
