/- A leaf joined with its sides, and how many there must be: the program's answers. -/
import Derived.Test.YtpcafjbebhcilaaGreatTm21
namespace Go.Proofs.YtpcafjbebhcilaaGreat
open Go.RowKit
set_option linter.unusedSimpArgs false
set_option linter.unusedVariables false
variable {p b x y : Nat} {T : List ByteArray} {S : List (Int × ByteArray)}

theorem Hgt.lt {i n h : Nat} (k : Hgt i n h) : i < n := by
  induction k using Hgt.ind with
  | one => omega
  | left i n h hn hi _ ih => have := hf_bounds hn; omega
  | right i n h hn hi _ ih => have := hf_bounds hn; omega
set_option maxHeartbeats 4000000 in
set_option maxRecDepth 100000 in
theorem height_calls (i n : Nat) (w : World) (hi : i < n) (hn : n ≤ 4096) : Calls Tryz.prog 83 #[.int .i64 i, .int .i64 n] w fun e w' => ∃ h, e = .returned (.int .i64 (h : Nat)) ∧ Hgt i n h ∧ w' = w := by
  obtain ⟨H, hH⟩ := Hgt.ex n i hi
  go_enter Tryz.func83, Tryz.ntmps83
  go_wp2_with fail
  go_loopw [1, 0, 5] (fun nv iv hv wr => ∃ i1 n1 h1 h2 : Nat, nv = .int .i64 n1 ∧ iv = .int .i64 i1 ∧ hv = .int .i64 h1 ∧ i1 < n1 ∧ n1 ≤ 4096 ∧ Hgt i1 n1 h2 ∧ h1 + h2 = H ∧ h2 ≤ 4096 ∧ h1 ≤ 4096 ∧ wr = w) (fun nv _ _ _ => (intOf nv).toNat)
  case atStart => exact ⟨i, n, 0, H, rfl, rfl, rfl, hi, hn, hH, by omega, by have := hH.le; omega, by omega, rfl⟩
  case round =>
    obtain ⟨i1, n1, h1, h2, rfl, rfl, rfl, hi1, hn1, hh, hsum, hle, hle1, rfl⟩ := hrel
    have hHl := hH.le
    by_cases hn2 : 2 ≤ n1
    · have hd1 : decide ((1 : Int) < (n1 : Int)) = true := by simp only [decide_eq_true_eq]; omega
      obtain ⟨hk1, hk2⟩ := hf_bounds hn2
      have HS : Hid _ := fun wx => split_calls n1 wx hn2 (by omega)
      by_cases hil : i1 < hf n1
      · have di : decide ((i1 : Int) < (hf n1 : Int)) = true := by simp only [decide_eq_true_eq]; omega
        obtain ⟨h3, rfl, hh3⟩ : ∃ h3, h2 = h3 + 1 ∧ Hgt i1 (hf n1) h3 := by
          rcases hh.inv with ⟨_, _, _⟩ | ⟨_, _, h, k, e⟩ | ⟨_, h', _⟩
          · omega
          · exact ⟨h, e, k⟩
          · omega
        go_wp2_with fail
        refine (HS.out _).mono ?_
        rintro e w1 ⟨rfl, rfl⟩
        go_wp2
        refine ⟨⟨i1, hf n1, h1 + 1, h3, rfl, rfl, by norm_cast, hil, by omega, hh3, by omega, by omega, by omega, by trivial⟩, ?_⟩
        simp [intOf]; omega
      · have di : decide ((i1 : Int) < (hf n1 : Int)) = false := by simp only [decide_eq_false_iff_not]; omega
        obtain ⟨h3, rfl, hh3⟩ : ∃ h3, h2 = h3 + 1 ∧ Hgt (i1 - hf n1) (n1 - hf n1) h3 := by
          rcases hh.inv with ⟨_, _, _⟩ | ⟨_, h', _⟩ | ⟨_, _, h, k, e⟩
          · omega
          · omega
          · exact ⟨h, e, k⟩
        have e1 : ((i1 - hf n1 : Nat) : Int) = (i1 : Int) - (hf n1 : Int) := by omega
        have e2 : ((n1 - hf n1 : Nat) : Int) = (n1 : Int) - (hf n1 : Int) := by omega
        go_wp2_with fail
        refine (HS.out _).mono ?_
        rintro e w1 ⟨rfl, rfl⟩
        go_wp2
        refine ⟨⟨i1 - hf n1, n1 - hf n1, h1 + 1, h3, by rw [e2], by rw [e1], by norm_cast, by omega, by omega, hh3, by omega, by omega, by omega, by trivial⟩, ?_⟩
        simp [intOf]; omega
    · have hd1 : decide ((1 : Int) < (n1 : Int)) = false := by simp only [decide_eq_false_iff_not]; omega
      obtain rfl : h2 = 0 := by
        rcases hh.inv with ⟨_, _, e⟩ | ⟨h, _⟩ | ⟨h, _⟩
        · exact e
        · omega
        · omega
      go_wp2
      go_ret
      obtain rfl : h1 = H := by omega
      exact ⟨h1, rfl, hH, rfl⟩

set_option maxHeartbeats 4000000 in
set_option maxRecDepth 100000 in
theorem climb_calls : ∀ (m : Nat) (ss : List ByteArray) (v : Value) (i n : Nat) (leaf : ByteArray) (T : List ByteArray) (w : World), ss.length = m → m ≤ 4096 → Hgt i n m → n ≤ 4096 → Lf w v ss → Book w p b x y T S → T.length + m < 1000000 → (∀ s ∈ ss, s.size ≤ 32) → leaf.size ≤ 32 →
    Calls Tryz.prog 84 #[.pointer (some ⟨p, 0, none⟩), .string leaf, .int .i64 i, .int .i64 n, v] w fun e w' => ∃ a T', e = .returned (.string a) ∧ Climb T' leaf i n ss a ∧ Grew x y p b T S w m T' w' := by
  intro m
  induction m with
  | zero =>
    intro ss v i n leaf T w hm hm2 hh hn hl hB hT hs hlf
    obtain rfl := List.length_eq_zero_iff.1 hm
    obtain ⟨rfl, rfl⟩ : i = 0 ∧ n = 1 := by
      rcases hh.inv with ⟨h1, h2, _⟩ | ⟨_, _, h, _, e⟩ | ⟨_, _, h, _, e⟩
      · exact ⟨h1, h2⟩
      · omega
      · omega
    go_enter Tryz.func84, Tryz.ntmps84
    go_wp2
    go_ret
    exact ⟨_, T, rfl, .one, Grew.refl hB⟩
  | succ m ih =>
    intro ss v i n leaf T w hm hm2 hh hn hl hB hT hs hlf
    obtain ⟨g, off, cap, rfl, hc, hcm, hx⟩ := hl.at (by omega)
    have hn2 : 2 ≤ n := by
      rcases hh.inv with ⟨_, _, e⟩ | ⟨h, _⟩ | ⟨h, _⟩
      · omega
      · exact h
      · exact h
    obtain ⟨hk1, hk2⟩ := hf_bounds hn2
    have hsp := fun wx => split_calls n wx hn2 (by omega)
    have hL := lf_take (k := m) (by omega) hc hcm hx
    have cl := hx m (by omega)
    obtain ⟨sl, hsl⟩ : ∃ sl, ss[m]'(by omega) = sl := ⟨_, rfl⟩
    rw [hsl] at cl
    have hss : ss = ss.take m ++ [sl] := by
      rw [← hsl, ← List.take_succ_eq_append_getElem (by omega), List.take_of_length_le (by omega)]
    have hsz : sl.size ≤ 32 := hs sl (by rw [hss]; simp)
    have HSS : Hid _ := hss
    clear hss
    have hin := hh.lt
    rw [hm] at hc ⊢
    have d1 : decide ((n : Int) = 1) = false := by simp only [decide_eq_false_iff_not]; omega
    have HS : Hid _ := hsp
    clear hsp hx hl
    by_cases hil : i < hf n
    · have di : decide ((i : Int) < (hf n : Int)) = true := by simp only [decide_eq_true_eq]; omega
      have hh2 : Hgt i (hf n) m := by
        rcases hh.inv with ⟨_, _, e⟩ | ⟨_, _, h, k, e⟩ | ⟨_, h', _⟩
        · omega
        · obtain rfl : m = h := by omega
          exact k
        · omega
      go_enter Tryz.func84, Tryz.ntmps84
      go_wp2_with fail
      refine (HS.out _).mono ?_
      rintro e w1 ⟨rfl, rfl⟩
      go_wp2_with fail
      have hd : Below w1.heap.size w1 w1.drew := (Below.refl _ _).drew
      have H1 := ih _ _ i (hf n) leaf T w1.drew (by rw [List.length_take]; omega) (by omega) hh2 (by omega) (hL.below hd) (hB.below hd) (by omega) (fun s h => hs s (List.mem_of_mem_take h)) hlf
      have H3 := fun (T2 : List ByteArray) (wx : World) (a1 : ByteArray) (h : Book wx p b x y T2 S) (h2 : T2.length < 1000000) (t1 : Climb T2 leaf i (hf n) (ss.take m) a1) => nodeOf_calls a1 sl wx h h2 (Nat.le_trans (t1.small hlf) (by decide)) (by omega)
      have HH1 : Hid _ := H1
      have HH3 : Hid _ := H3
      clear H1 H3 ih
      have cl1 : w1.drew.cell? ⟨g, off + m, none⟩ = some (.string sl) := cl
      refine wp_region_any (by kernel_rfl) ?_
      change wpAny _ _ _ _ _ _ _ (World.drew _)
      refine wpAny_take (i := 0) (v := (.pointer (some ⟨p, 0, none⟩))) rfl (by kernel_rfl) (by kernel_rfl) (by kernel_rfl) (fun _ _ _ h => h) (Or.inl ⟨by rfl, fun w => by go_simp⟩) ?_
      refine wpAny_take (i := 1) (v := (.pointer (some ⟨p, 0, none⟩))) rfl (by kernel_rfl) (by kernel_rfl) (by kernel_rfl) (fun _ _ _ h => h) (Or.inl ⟨by rfl, fun w => by go_simp⟩) ?_
      refine wpAny_take (i := 2) (v := (.string leaf)) rfl (by kernel_rfl) (by kernel_rfl) (by kernel_rfl) (fun _ _ _ h => h) (Or.inl ⟨by rfl, fun w => by go_simp⟩) ?_
      refine wpAny_take (i := 3) (v := (.int .i64 i)) rfl (by kernel_rfl) (by kernel_rfl) (by kernel_rfl) (fun _ _ _ h => h) (Or.inl ⟨by rfl, fun w => by go_simp⟩) ?_
      refine wpAny_take (i := 4) (v := (.int .i64 (hf n))) rfl (by kernel_rfl) (by kernel_rfl) (by kernel_rfl) (fun _ _ _ h => h) (Or.inl ⟨by rfl, fun w => by go_simp⟩) ?_
      refine wpAny_take (i := 5) (v := (.slice (some ⟨g, off, none⟩) (m + 1) cap)) rfl (by kernel_rfl) (by kernel_rfl) (by kernel_rfl) (fun _ _ _ h => h) (Or.inl ⟨by rfl, fun w => by go_simp⟩) ?_
      refine wpAny_take (i := 6) (v := (.int .i64 m)) rfl (by kernel_rfl) (by kernel_rfl) (by kernel_rfl) (fun _ _ _ h => h) (Or.inl ⟨by rfl, fun w => by go_simp⟩) ?_
      refine wpAny_take (i := 7) (v := (.slice (some ⟨g, off, none⟩) m cap)) rfl (by kernel_rfl) (by kernel_rfl) (by kernel_rfl) (fun _ _ _ h => h) (Or.inl ⟨by rfl, fun w => by go_simp; intro h; omega⟩) ?_
      refine wpAny_take (i := 9) (v := (.slice (some ⟨g, off, none⟩) (m + 1) cap)) rfl (by kernel_rfl) (by kernel_rfl) (by kernel_rfl) (fun _ _ _ h => h) (Or.inl ⟨by rfl, fun w => by go_simp⟩) ?_
      refine wpAny_take (i := 10) (v := (.int .i64 m)) rfl (by kernel_rfl) (by kernel_rfl) (by kernel_rfl) (fun _ _ _ h => h) (Or.inl ⟨by rfl, fun w => by go_simp⟩) ?_
      refine wpAny_take (i := 11) (v := (.pointer (some ⟨g, off + m, none⟩))) rfl (by kernel_rfl) (by kernel_rfl) (by kernel_rfl) (fun _ _ _ h => h) (Or.inl ⟨by rfl, fun w => by go_simp; intro h; omega⟩) ?_
      refine wpAny_ready (rs := [8, 12]) (by kernel_rfl) (by simp) ?_
      refine AllReady.cons rfl (fun K hK => ?_) (AllReady.cons rfl (fun K hK => ?_) AllReady.nil)
      · go_simp
        refine Calls.mono HH1.out ?_
        rintro e w2 ⟨a1, T1, rfl, t1, G1⟩
        refine hK _ _ ?_
        clear hK
        have l1 := G1.len
        have cl2 : w2.cell? ⟨g, off + m, none⟩ = some (.string sl) := keepCell2 (hB.below hd) G1.off cl1
        refine wpAny_ready (rs := [12]) (by kernel_rfl) (by simp) ?_
        refine AllReady.cons rfl (fun K hK => ?_) AllReady.nil
        go_simp
        refine hK _ _ ?_
        clear hK
        refine wpAny_ready (rs := [13]) (by kernel_rfl) (by simp) ?_
        refine AllReady.cons rfl (fun K hK => ?_) AllReady.nil
        go_simp
        refine (HH3.out T1 _ a1 G1.book (by omega) t1).mono ?_
        rintro e w4 A
        obtain rfl := A.ret
        refine hK _ _ ?_
        clear hK
        refine wpAny_ready (rs := [14]) (by kernel_rfl) (by simp) ?_
        refine AllReady.cons rfl (fun K hK => ?_) AllReady.nil
        go_simp
        refine hK _ _ ?_
        clear hK
        refine wpAny_done (by kernel_rfl) ?_ _
        go_wp2
        go_ret
        have G0 : Grew x y p b T S w1 0 T w1.drew := (Grew.refl hB).below hd
        refine ⟨_, rfl, _, ?_, ((G0.trans G1).trans A.grew).le (by omega)⟩
        have n1 := Ext.note T1 (nodeT a1 sl)
        rw [HSS.out]
        exact .left i n _ a1 sl hn2 hil (t1.ext n1) (mem_noted _ _)
      · go_simp
        refine hK _ _ ?_
        clear hK
        refine wpAny_ready (rs := [8]) (by kernel_rfl) (by simp) ?_
        refine AllReady.cons rfl (fun K hK => ?_) AllReady.nil
        go_simp
        refine Calls.mono HH1.out ?_
        rintro e w2 ⟨a1, T1, rfl, t1, G1⟩
        refine hK _ _ ?_
        clear hK
        have l1 := G1.len
        have cl2 : w2.cell? ⟨g, off + m, none⟩ = some (.string sl) := keepCell2 (hB.below hd) G1.off cl1
        refine wpAny_ready (rs := [13]) (by kernel_rfl) (by simp) ?_
        refine AllReady.cons rfl (fun K hK => ?_) AllReady.nil
        go_simp
        refine (HH3.out T1 _ a1 G1.book (by omega) t1).mono ?_
        rintro e w4 A
        obtain rfl := A.ret
        refine hK _ _ ?_
        clear hK
        refine wpAny_ready (rs := [14]) (by kernel_rfl) (by simp) ?_
        refine AllReady.cons rfl (fun K hK => ?_) AllReady.nil
        go_simp
        refine hK _ _ ?_
        clear hK
        refine wpAny_done (by kernel_rfl) ?_ _
        go_wp2
        go_ret
        have G0 : Grew x y p b T S w1 0 T w1.drew := (Grew.refl hB).below hd
        refine ⟨_, rfl, _, ?_, ((G0.trans G1).trans A.grew).le (by omega)⟩
        have n1 := Ext.note T1 (nodeT a1 sl)
        rw [HSS.out]
        exact .left i n _ a1 sl hn2 hil (t1.ext n1) (mem_noted _ _)
    · have di : decide ((i : Int) < (hf n : Int)) = false := by simp only [decide_eq_false_iff_not]; omega
      have hh2 : Hgt (i - hf n) (n - hf n) m := by
        rcases hh.inv with ⟨_, _, e⟩ | ⟨_, h', _⟩ | ⟨_, _, h, k, e⟩
        · omega
        · omega
        · obtain rfl : m = h := by omega
          exact k
      go_enter Tryz.func84, Tryz.ntmps84
      go_wp2_with fail
      refine (HS.out _).mono ?_
      rintro e w1 ⟨rfl, rfl⟩
      go_wp2_with fail
      have hd : Below w1.heap.size w1 w1.drew := (Below.refl _ _).drew
      have H1 := ih _ _ (i - hf n) (n - hf n) leaf T w1.drew (by rw [List.length_take]; omega) (by omega) hh2 (by omega) (hL.below hd) (hB.below hd) (by omega) (fun s h => hs s (List.mem_of_mem_take h)) hlf
      have e1 : ((i - hf n : Nat) : Int) = (i : Int) - (hf n : Int) := by omega
      have e2 : ((n - hf n : Nat) : Int) = (n : Int) - (hf n : Int) := by omega
      rw [e1, e2] at H1
      have H3 := fun (T2 : List ByteArray) (wx : World) (a1 : ByteArray) (h : Book wx p b x y T2 S) (h2 : T2.length < 1000000) (t1 : Climb T2 leaf (i - hf n) (n - hf n) (ss.take m) a1) => nodeOf_calls sl a1 wx h h2 (by omega) (Nat.le_trans (t1.small hlf) (by decide))
      have HH1 : Hid _ := H1
      have HH3 : Hid _ := H3
      clear H1 H3 ih
      have cl1 : w1.drew.cell? ⟨g, off + m, none⟩ = some (.string sl) := cl
      refine wp_region_any (by kernel_rfl) ?_
      change wpAny _ _ _ _ _ _ _ (World.drew _)
      refine wpAny_take (i := 0) (v := (.pointer (some ⟨p, 0, none⟩))) rfl (by kernel_rfl) (by kernel_rfl) (by kernel_rfl) (fun _ _ _ h => h) (Or.inl ⟨by rfl, fun w => by go_simp⟩) ?_
      refine wpAny_take (i := 1) (v := (.slice (some ⟨g, off, none⟩) (m + 1) cap)) rfl (by kernel_rfl) (by kernel_rfl) (by kernel_rfl) (fun _ _ _ h => h) (Or.inl ⟨by rfl, fun w => by go_simp⟩) ?_
      refine wpAny_take (i := 2) (v := (.int .i64 m)) rfl (by kernel_rfl) (by kernel_rfl) (by kernel_rfl) (fun _ _ _ h => h) (Or.inl ⟨by rfl, fun w => by go_simp⟩) ?_
      refine wpAny_take (i := 3) (v := (.pointer (some ⟨g, off + m, none⟩))) rfl (by kernel_rfl) (by kernel_rfl) (by kernel_rfl) (fun _ _ _ h => h) (Or.inl ⟨by rfl, fun w => by go_simp; intro h; omega⟩) ?_
      refine wpAny_take (i := 5) (v := (.pointer (some ⟨p, 0, none⟩))) rfl (by kernel_rfl) (by kernel_rfl) (by kernel_rfl) (fun _ _ _ h => h) (Or.inl ⟨by rfl, fun w => by go_simp⟩) ?_
      refine wpAny_take (i := 6) (v := (.string leaf)) rfl (by kernel_rfl) (by kernel_rfl) (by kernel_rfl) (fun _ _ _ h => h) (Or.inl ⟨by rfl, fun w => by go_simp⟩) ?_
      refine wpAny_take (i := 7) (v := (.int .i64 i)) rfl (by kernel_rfl) (by kernel_rfl) (by kernel_rfl) (fun _ _ _ h => h) (Or.inl ⟨by rfl, fun w => by go_simp⟩) ?_
      refine wpAny_take (i := 8) (v := (.int .i64 (hf n))) rfl (by kernel_rfl) (by kernel_rfl) (by kernel_rfl) (fun _ _ _ h => h) (Or.inl ⟨by rfl, fun w => by go_simp⟩) ?_
      refine wpAny_take (i := 9) (v := (.int .i64 ((i : Int) - (hf n : Int)))) rfl (by kernel_rfl) (by kernel_rfl) (by kernel_rfl) (fun _ _ _ h => h) (Or.inl ⟨by rfl, fun w => by go_simp; exact wrapI _ (by omega) (by omega)⟩) ?_
      refine wpAny_take (i := 10) (v := (.int .i64 n)) rfl (by kernel_rfl) (by kernel_rfl) (by kernel_rfl) (fun _ _ _ h => h) (Or.inl ⟨by rfl, fun w => by go_simp⟩) ?_
      refine wpAny_take (i := 11) (v := (.int .i64 (hf n))) rfl (by kernel_rfl) (by kernel_rfl) (by kernel_rfl) (fun _ _ _ h => h) (Or.inl ⟨by rfl, fun w => by go_simp⟩) ?_
      refine wpAny_take (i := 12) (v := (.int .i64 ((n : Int) - (hf n : Int)))) rfl (by kernel_rfl) (by kernel_rfl) (by kernel_rfl) (fun _ _ _ h => h) (Or.inl ⟨by rfl, fun w => by go_simp; exact wrapI _ (by omega) (by omega)⟩) ?_
      refine wpAny_take (i := 13) (v := (.slice (some ⟨g, off, none⟩) (m + 1) cap)) rfl (by kernel_rfl) (by kernel_rfl) (by kernel_rfl) (fun _ _ _ h => h) (Or.inl ⟨by rfl, fun w => by go_simp⟩) ?_
      refine wpAny_take (i := 14) (v := (.int .i64 m)) rfl (by kernel_rfl) (by kernel_rfl) (by kernel_rfl) (fun _ _ _ h => h) (Or.inl ⟨by rfl, fun w => by go_simp⟩) ?_
      refine wpAny_take (i := 15) (v := (.slice (some ⟨g, off, none⟩) m cap)) rfl (by kernel_rfl) (by kernel_rfl) (by kernel_rfl) (fun _ _ _ h => h) (Or.inl ⟨by rfl, fun w => by go_simp; intro h; omega⟩) ?_
      refine wpAny_ready (rs := [4, 16]) (by kernel_rfl) (by simp) ?_
      refine AllReady.cons rfl (fun K hK => ?_) (AllReady.cons rfl (fun K hK => ?_) AllReady.nil)
      · go_simp
        refine hK _ _ ?_
        clear hK
        refine wpAny_ready (rs := [16]) (by kernel_rfl) (by simp) ?_
        refine AllReady.cons rfl (fun K hK => ?_) AllReady.nil
        go_simp
        refine Calls.mono HH1.out ?_
        rintro e w2 ⟨a1, T1, rfl, t1, G1⟩
        refine hK _ _ ?_
        clear hK
        have l1 := G1.len
        have cl2 : w2.cell? ⟨g, off + m, none⟩ = some (.string sl) := keepCell2 (hB.below hd) G1.off cl1
        refine wpAny_ready (rs := [17]) (by kernel_rfl) (by simp) ?_
        refine AllReady.cons rfl (fun K hK => ?_) AllReady.nil
        go_simp
        refine (HH3.out T1 _ a1 G1.book (by omega) t1).mono ?_
        rintro e w4 A
        obtain rfl := A.ret
        refine hK _ _ ?_
        clear hK
        refine wpAny_ready (rs := [18]) (by kernel_rfl) (by simp) ?_
        refine AllReady.cons rfl (fun K hK => ?_) AllReady.nil
        go_simp
        refine hK _ _ ?_
        clear hK
        refine wpAny_done (by kernel_rfl) ?_ _
        go_wp2
        go_ret
        have G0 : Grew x y p b T S w1 0 T w1.drew := (Grew.refl hB).below hd
        refine ⟨_, rfl, _, ?_, ((G0.trans G1).trans A.grew).le (by omega)⟩
        have n1 := Ext.note T1 (nodeT sl a1)
        rw [HSS.out]
        exact .right i n _ sl a1 hn2 (by omega) (t1.ext n1) (mem_noted _ _)
      · go_simp
        refine Calls.mono HH1.out ?_
        rintro e w2 ⟨a1, T1, rfl, t1, G1⟩
        refine hK _ _ ?_
        clear hK
        have l1 := G1.len
        have cl2 : w2.cell? ⟨g, off + m, none⟩ = some (.string sl) := keepCell2 (hB.below hd) G1.off cl1
        refine wpAny_ready (rs := [4]) (by kernel_rfl) (by simp) ?_
        refine AllReady.cons rfl (fun K hK => ?_) AllReady.nil
        go_simp
        refine hK _ _ ?_
        clear hK
        refine wpAny_ready (rs := [17]) (by kernel_rfl) (by simp) ?_
        refine AllReady.cons rfl (fun K hK => ?_) AllReady.nil
        go_simp
        refine (HH3.out T1 _ a1 G1.book (by omega) t1).mono ?_
        rintro e w4 A
        obtain rfl := A.ret
        refine hK _ _ ?_
        clear hK
        refine wpAny_ready (rs := [18]) (by kernel_rfl) (by simp) ?_
        refine AllReady.cons rfl (fun K hK => ?_) AllReady.nil
        go_simp
        refine hK _ _ ?_
        clear hK
        refine wpAny_done (by kernel_rfl) ?_ _
        go_wp2
        go_ret
        have G0 : Grew x y p b T S w1 0 T w1.drew := (Grew.refl hB).below hd
        refine ⟨_, rfl, _, ?_, ((G0.trans G1).trans A.grew).le (by omega)⟩
        have n1 := Ext.note T1 (nodeT sl a1)
        rw [HSS.out]
        exact .right i n _ sl a1 hn2 (by omega) (t1.ext n1) (mem_noted _ _)
end Go.Proofs.YtpcafjbebhcilaaGreat
