/- What a proof shows: the program's answers. -/
import Derived.Test.YtpcafjbebhcilaaGreatTm29
namespace Go.Proofs.YtpcafjbebhcilaaGreat
open Go.RowKit
set_option linter.unusedSimpArgs false
set_option linter.unusedVariables false
variable {p b x y : Nat} {T : List ByteArray} {S : List (Int × ByteArray)}

theorem keepA {w : World} {a : Addr} {u : Value} {o : Obj} (h : w.cell? a = some u) : (w.alloc o).drew.cell? a = some u := (World.cell?_alloc_lt _ _ _ (World.block_lt_of_cell? w a h)).trans h
def thereB (q : Pf) (key : ByteArray) : Bool := match q.paths with | [t] => decide (t.key = key) | _ => false
theorem Pts.at {w : World} {v : Value} {l : List Pt} (h : Pts w v l) (k : Nat) (hk : k < l.length) : ∃ g off cap sv, v = .slice (some ⟨g, off, none⟩) l.length cap ∧ w.cell? ⟨g, off + k * 4, none⟩ = some (.int .i64 l[k].idx) ∧ w.cell? ⟨g, off + k * 4 + 1, none⟩ = some (.string l[k].key) ∧ w.cell? ⟨g, off + k * 4 + 2, none⟩ = some (.string l[k].dat) ∧ w.cell? ⟨g, off + k * 4 + 3, none⟩ = some sv ∧ Strs w sv l[k].sides := by
  rcases h with ⟨_, h0⟩ | ⟨g, off, c, e, hx⟩
  · rw [h0] at hk; simp at hk
  · obtain ⟨sv, q1, q2, q3, q4, q5, _⟩ := hx k hk
    exact ⟨g, off, c, sv, e, q1, q2, q3, q4, q5⟩

set_option maxHeartbeats 4000000 in
set_option maxRecDepth 100000 in
theorem there_calls (q : Pf) (lv : Value) (key : ByteArray) (w : World) (hs : Pts w lv q.paths) :
    Calls Tryz.prog 63 #[q.val lv, .string key] w fun e w' => e = .returned (.bool (thereB q key)) ∧ Below w.heap.size w w' := by
  obtain ⟨W1, hW1, X1, B1, Z1⟩ : ∃ W1, w.alloc (.cells #[.int .i64 q.cnt, lv] 36) = W1 ∧ Blk W1 w.heap.size #[.int .i64 q.cnt, lv] 36 ∧ Below w.heap.size w W1 ∧ W1.heap.size = w.heap.size + 1 :=
    ⟨_, rfl, blk_new _ _ _ _ rfl, by go_grown, by simp⟩
  have e1 : W1.cell? ⟨w.heap.size, 1, none⟩ = some lv := X1.cell rfl
  unfold Pf.val at *
  by_cases h1 : q.paths.length = 1
  · obtain ⟨t, ht⟩ := List.length_eq_one_iff.1 h1
    have hB : thereB q key = (t.key.toList == key.toList) := by unfold thereB; rw [ht, strEq]
    obtain ⟨g, off, cap, sv, rfl, m0, m1, -⟩ := hs.at 0 (by omega)
    have ht0 : q.paths[0]'(by omega) = t := by simp [ht]
    rw [ht0] at m1
    simp only [Nat.zero_mul, Nat.add_zero] at m1
    have m1 := keepCell B1 m1
    rw [h1] at e1 hW1 ⊢
    have HB : Hid _ := hB
    clear hB ht ht0 m0 h1 hs
    go_enter Tryz.func63, Tryz.ntmps63
    go_wp2
    go_ret
    exact ⟨by rw [HB.out]; rfl, B1⟩
  · have hB : thereB q key = false := by
      unfold thereB
      cases hp : q.paths with
      | nil => rfl
      | cons t l =>
        cases l with
        | nil => rw [hp] at h1; exact absurd rfl h1
        | cons u l => rfl
    obtain ⟨a, cap, rfl⟩ := hs.len
    have d1 : decide ((q.paths.length : Int) = 1) = false := decide_eq_false (by omega)
    have d2 : ((q.paths.length : Int) == 1) = false := d1
    have HB : Hid _ := hB
    clear hB hs
    go_enter Tryz.func63, Tryz.ntmps63
    go_wp2
    go_ret
    exact ⟨by rw [HB.out]; rfl, B1⟩

def showsB (q : Pf) (key : ByteArray) : Bool :=
  match q.paths with
  | [] => decide (q.cnt = 0)
  | [t] => decide (t.key = key) || (decide (t.idx = 0) && lsB key t.key) || (decide (t.idx = q.cnt - 1) && lsB t.key key)
  | t :: u :: _ => decide (u.idx = t.idx + 1) && lsB t.key key && lsB key u.key

set_option maxHeartbeats 4000000 in
set_option maxRecDepth 100000 in
theorem shows_calls (q : Pf) (lv : Value) (key : ByteArray) (w : World) (hs : Pts w lv q.paths) (hc : 0 ≤ q.cnt ∧ q.cnt ≤ 4096) (hi : ∀ t ∈ q.paths, 0 ≤ t.idx ∧ t.idx ≤ 4095) :
    Calls Tryz.prog 61 #[q.val lv, .string key] w fun e w' => e = .returned (.bool (showsB q key)) ∧ Below w.heap.size w w' := by
  obtain ⟨W1, hW1, X1, B1, Z1⟩ : ∃ W1, w.alloc (.cells #[.int .i64 q.cnt, lv] 36) = W1 ∧ Blk W1 w.heap.size #[.int .i64 q.cnt, lv] 36 ∧ Below w.heap.size w W1 ∧ W1.heap.size = w.heap.size + 1 :=
    ⟨_, rfl, blk_new _ _ _ _ rfl, by go_grown, by simp⟩
  have e0 : W1.cell? ⟨w.heap.size, 0, none⟩ = some (.int .i64 q.cnt) := X1.cell rfl
  have e1 : W1.cell? ⟨w.heap.size, 1, none⟩ = some lv := X1.cell rfl
  by_cases h0 : q.paths.length = 0
  · have hB : showsB q key = decide (q.cnt = 0) := by unfold showsB; rw [List.length_eq_zero_iff.1 h0]
    obtain ⟨a, cap, rfl⟩ := hs.len
    rw [h0] at e1 hW1 ⊢
    unfold Pf.val
    have HB : Hid _ := hB
    clear hB h0 hs
    go_enter Tryz.func61, Tryz.ntmps61
    go_wp2
    go_ret
    exact ⟨by rw [HB.out]; rfl, B1⟩
  by_cases h1 : q.paths.length = 1
  · obtain ⟨t, ht⟩ := List.length_eq_one_iff.1 h1
    have hB : showsB q key = (thereB q key || (decide (t.idx = 0) && lsB key t.key) || (decide (t.idx = q.cnt - 1) && lsB t.key key)) := by unfold showsB thereB; rw [ht]
    obtain ⟨hi0, hi1⟩ := hi t (by rw [ht]; simp)
    have HT : Hid _ := fun wx (hb : Below w.heap.size w wx) => there_calls q lv key wx (hs.below hb)
    obtain ⟨g, off, cap, sv, rfl, m0, m1, m2, m3, hst⟩ := hs.at 0 (by omega)
    have ht0 : q.paths[0]'(by omega) = t := by simp [ht]
    rw [ht0] at m0 m1 m2 hst
    obtain ⟨sp, sc, rfl⟩ := hst.len
    simp only [Nat.zero_mul, Nat.add_zero] at m0 m1 m2 m3
    have m0 := keepCell B1 m0
    have m1 := keepCell B1 m1
    have m2 := keepCell B1 m2
    have m3 := keepCell B1 m3
    unfold Pf.val at *
    rw [h1] at e1 hW1 HT ⊢
    have HB : Hid _ := hB
    clear hB ht ht0 hst h1 hs hi h0
    obtain ⟨W2, hW2, X2, B2⟩ : ∃ W2, W1.alloc (.cells #[.int .i64 t.idx, .string t.key, .string t.dat, .slice sp t.sides.length sc] 80) = W2 ∧ Blk W2 (w.heap.size + 1) #[.int .i64 t.idx, .string t.key, .string t.dat, .slice sp t.sides.length sc] 80 ∧ Below W1.heap.size W1 W2 :=
      ⟨_, rfl, blk_new _ _ _ _ Z1.symm, by go_grown⟩
    have B12 := chain B1 B2
    have e02 := keepCell B2 e0
    have e12 := keepCell B2 e1
    go_enter Tryz.func61, Tryz.ntmps61
    go_wp2_with fail
    refine (HT.out _ B12).mono ?_
    rintro e w3 ⟨rfl, b3⟩
    have k0 : w3.cell? ⟨w.heap.size + 1, 0, none⟩ = some (.int .i64 t.idx) := (X2.below b3).cell rfl
    have k1 : w3.cell? ⟨w.heap.size + 1, 1, none⟩ = some (.string t.key) := (X2.below b3).cell rfl
    have p0 := keepCell b3 (keepCell B2 e0)
    have hcb := chain B12 b3
    clear HT hW1 hW2 X2 X1 m0 m1 m2 m3 e0 e1 e02 e12
    have hl1 : lsB key t.key = Op.bytesLess key.toList t.key.toList := rfl
    have hl2 : lsB t.key key = Op.bytesLess t.key.toList key.toList := rfl
    rw [hl1, hl2] at HB
    clear hl1 hl2
    obtain ⟨L1, hL1⟩ : ∃ L1, Op.bytesLess key.toList t.key.toList = L1 := ⟨_, rfl⟩
    obtain ⟨L2, hL2⟩ : ∃ L2, Op.bytesLess t.key.toList key.toList = L2 := ⟨_, rfl⟩
    rw [hL1, hL2] at HB
    cases hth : thereB q key
    · rw [hth] at HB
      by_cases hz : t.idx = 0
      · have dz : decide (t.idx = 0) = true := decide_eq_true hz
        have dz' : (t.idx == 0) = true := dz
        clear hz
        cases L1
        · by_cases hn : t.idx = q.cnt - 1
          · have dn : decide (t.idx = q.cnt - 1) = true := decide_eq_true hn
            have dn' : (t.idx == q.cnt - 1) = true := dn
            clear hn
            cases L2
            · go_wp2
              go_ret
              exact ⟨by rw [HB.out, dz, dn]; rfl, hcb⟩
            · go_wp2
              go_ret
              exact ⟨by rw [HB.out, dz, dn]; rfl, hcb⟩
          · have dn : decide (t.idx = q.cnt - 1) = false := decide_eq_false hn
            have dn' : (t.idx == q.cnt - 1) = false := dn
            clear hn
            go_wp2
            go_ret
            exact ⟨by rw [HB.out, dz, dn]; simp, hcb⟩
        · go_wp2
          go_ret
          exact ⟨by rw [HB.out, dz]; simp, hcb⟩
      · have dz : decide (t.idx = 0) = false := decide_eq_false hz
        have dz' : (t.idx == 0) = false := dz
        clear hz
        by_cases hn : t.idx = q.cnt - 1
        · have dn : decide (t.idx = q.cnt - 1) = true := decide_eq_true hn
          have dn' : (t.idx == q.cnt - 1) = true := dn
          clear hn
          cases L2
          · go_wp2
            go_ret
            exact ⟨by rw [HB.out, dz, dn]; rfl, hcb⟩
          · go_wp2
            go_ret
            exact ⟨by rw [HB.out, dz, dn]; rfl, hcb⟩
        · have dn : decide (t.idx = q.cnt - 1) = false := decide_eq_false hn
          have dn' : (t.idx == q.cnt - 1) = false := dn
          clear hn
          go_wp2
          go_ret
          exact ⟨by rw [HB.out, dz, dn]; simp, hcb⟩
    · rw [hth] at HB
      go_wp2
      go_ret
      exact ⟨by rw [HB.out]; simp, hcb⟩
  · have h2 : 2 ≤ q.paths.length := by omega
    obtain ⟨t, u, r, ht⟩ : ∃ t u r, q.paths = t :: u :: r := by
      cases hp : q.paths with
      | nil => rw [hp] at h0; exact absurd rfl h0
      | cons t l =>
        cases l with
        | nil => rw [hp] at h1; exact absurd rfl h1
        | cons u l => exact ⟨t, u, l, rfl⟩
    have hB : showsB q key = (decide (u.idx = t.idx + 1) && lsB t.key key && lsB key u.key) := by unfold showsB; rw [ht]
    obtain ⟨hi0, hi1⟩ := hi t (by rw [ht]; simp)
    obtain ⟨hj0, hj1⟩ := hi u (by rw [ht]; simp)
    obtain ⟨g, off, cap, sv, rfl, m0, m1, m2, m3, hst⟩ := hs.at 0 (by omega)
    obtain ⟨g', off', cap', sv', he, n0, n1, n2, n3, hst'⟩ := hs.at 1 (by omega)
    simp only [Value.slice.injEq, Option.some.injEq, Addr.mk.injEq, and_true, true_and] at he
    obtain ⟨⟨rfl, rfl⟩, rfl⟩ := he
    have ht0 : q.paths[0]'(by omega) = t := by simp [ht]
    have ht1 : q.paths[1]'(by omega) = u := by simp [ht]
    rw [ht0] at m0 m1 m2 hst
    rw [ht1] at n0 n1 n2 hst'
    obtain ⟨sp, sc, rfl⟩ := hst.len
    obtain ⟨sp', sc', rfl⟩ := hst'.len
    simp only [Nat.zero_mul, Nat.add_zero, Nat.one_mul] at m0 m1 m2 m3 n0 n1 n2 n3
    have hgl : g < w.heap.size := World.block_lt_of_cell? w _ m0
    have m0 := keepCell B1 m0
    have m1 := keepCell B1 m1
    have m2 := keepCell B1 m2
    have m3 := keepCell B1 m3
    have n0 := keepCell B1 n0
    have n1 := keepCell B1 n1
    have n2 := keepCell B1 n2
    have n3 := keepCell B1 n3
    unfold Pf.val at *
    have d0 : decide ((q.paths.length : Int) = 0) = false := decide_eq_false (by omega)
    have d1 : decide ((q.paths.length : Int) = 1) = false := decide_eq_false (by omega)
    have HB : Hid _ := hB
    have l0 : 0 < q.paths.length := by omega
    have l1 : 1 < q.paths.length := by omega
    have l0' : (0 : Int) < (q.paths.length : Int) := by omega
    have l1' : (1 : Int) < (q.paths.length : Int) := by omega
    have n1' : W1.cell? ⟨g, off + 5, none⟩ = some (.string u.key) := n1
    have n2' : W1.cell? ⟨g, off + 6, none⟩ = some (.string u.dat) := n2
    have n3' : W1.cell? ⟨g, off + 7, none⟩ = some (.slice sp' u.sides.length sc') := n3
    clear hB ht ht0 ht1 hst hst' hs hi h0 h1 h2
    go_enter Tryz.func61, Tryz.ntmps61
    go_wp2_with fail
    have hgw : g < w.heap.size := hgl
    refine wp_region_held_drew (S := (fun wx => wx.cell? ⟨w.heap.size, 1, none⟩ = some (.slice (some ⟨g, off, none⟩) q.paths.length cap) ∧ wx.cell? ⟨g, off, none⟩ = some (.int .i64 t.idx) ∧ wx.cell? ⟨g, off + 1, none⟩ = some (.string t.key) ∧ wx.cell? ⟨g, off + 2, none⟩ = some (.string t.dat) ∧ wx.cell? ⟨g, off + 3, none⟩ = some (.slice sp t.sides.length sc) ∧ wx.cell? ⟨g, off + 4, none⟩ = some (.int .i64 u.idx) ∧ wx.cell? ⟨g, off + 5, none⟩ = some (.string u.key) ∧ wx.cell? ⟨g, off + 6, none⟩ = some (.string u.dat) ∧ wx.cell? ⟨g, off + 7, none⟩ = some ((.slice sp' u.sides.length sc')))) (by kernel_rfl) ⟨e1, m0, m1, m2, m3, n0, n1, n2, n3⟩ (fun hS => ?_)
    refine wpAnyH_take (i := 0) (v := (.pointer (some ⟨w.heap.size, 1, none⟩))) rfl (by kernel_rfl) (by kernel_rfl) (by kernel_rfl) (fun _ _ _ h => h) (Or.inl ⟨by rfl, fun w hS => by obtain ⟨s0, s1, s2, s3, s4, s5, s6, s7, s8⟩ := hS; go_simp⟩) hS ?_
    refine wpAnyH_take (i := 1) (v := (.slice (some ⟨g, off, none⟩) q.paths.length cap)) rfl (by kernel_rfl) (by kernel_rfl) (by kernel_rfl) (fun _ _ _ h => h) (Or.inl ⟨by rfl, fun w hS => by obtain ⟨s0, s1, s2, s3, s4, s5, s6, s7, s8⟩ := hS; go_simp⟩) hS ?_
    refine wpAnyH_take (i := 2) (v := (.pointer (some ⟨g, off, none⟩))) rfl (by kernel_rfl) (by kernel_rfl) (by kernel_rfl) (fun _ _ _ h => h) (Or.inl ⟨by rfl, fun w hS => by obtain ⟨s0, s1, s2, s3, s4, s5, s6, s7, s8⟩ := hS; go_simp⟩) hS ?_
    refine wpAnyH_take (i := 3) (v := (.agg #[.int .i64 t.idx, .string t.key, .string t.dat, .slice sp t.sides.length sc])) rfl (by kernel_rfl) (by kernel_rfl) (by kernel_rfl) (fun _ _ _ h => h) (Or.inl ⟨by rfl, fun w hS => by obtain ⟨s0, s1, s2, s3, s4, s5, s6, s7, s8⟩ := hS; go_simp⟩) hS ?_
    refine wpAnyH_take (i := 4) (v := (.pointer (some ⟨w.heap.size, 1, none⟩))) rfl (by kernel_rfl) (by kernel_rfl) (by kernel_rfl) (fun _ _ _ h => h) (Or.inl ⟨by rfl, fun w hS => by obtain ⟨s0, s1, s2, s3, s4, s5, s6, s7, s8⟩ := hS; go_simp⟩) hS ?_
    refine wpAnyH_take (i := 5) (v := (.slice (some ⟨g, off, none⟩) q.paths.length cap)) rfl (by kernel_rfl) (by kernel_rfl) (by kernel_rfl) (fun _ _ _ h => h) (Or.inl ⟨by rfl, fun w hS => by obtain ⟨s0, s1, s2, s3, s4, s5, s6, s7, s8⟩ := hS; go_simp⟩) hS ?_
    refine wpAnyH_take (i := 6) (v := (.pointer (some ⟨g, off + 4, none⟩))) rfl (by kernel_rfl) (by kernel_rfl) (by kernel_rfl) (fun _ _ _ h => h) (Or.inl ⟨by rfl, fun w hS => by obtain ⟨s0, s1, s2, s3, s4, s5, s6, s7, s8⟩ := hS; go_simp⟩) hS ?_
    refine wpAnyH_take (i := 7) (v := (.agg #[.int .i64 u.idx, .string u.key, .string u.dat, .slice sp' u.sides.length sc'])) rfl (by kernel_rfl) (by kernel_rfl) (by kernel_rfl) (fun _ _ _ h => h) (Or.inl ⟨by rfl, fun w hS => by obtain ⟨s0, s1, s2, s3, s4, s5, s6, s7, s8⟩ := hS; go_simp⟩) hS ?_
    refine wpAnyH_ready (rs := [8, 9]) (by kernel_rfl) (by simp) ?_
    refine AllReadyH.cons rfl (fun K hK => ?_) (AllReadyH.cons rfl (fun K hK => ?_) AllReadyH.nil)
    · go_simp
      refine hK.out _ _ ⟨keepA hS.1, keepA hS.2.1, keepA hS.2.2.1, keepA hS.2.2.2.1, keepA hS.2.2.2.2.1, keepA hS.2.2.2.2.2.1, keepA hS.2.2.2.2.2.2.1, keepA hS.2.2.2.2.2.2.2.1, keepA hS.2.2.2.2.2.2.2.2⟩ (fun hS => ?_)
      clear hK
      refine wpAnyH_ready (rs := [9]) (by kernel_rfl) (by simp) ?_
      refine AllReadyH.cons rfl (fun K hK => ?_) AllReadyH.nil
      go_simp
      refine hK.out _ _ ⟨keepA hS.1, keepA hS.2.1, keepA hS.2.2.1, keepA hS.2.2.2.1, keepA hS.2.2.2.2.1, keepA hS.2.2.2.2.2.1, keepA hS.2.2.2.2.2.2.1, keepA hS.2.2.2.2.2.2.2.1, keepA hS.2.2.2.2.2.2.2.2⟩ (fun hS => ?_)
      clear hK
      refine wpAnyH_ready (rs := [10]) (by kernel_rfl) (by simp) ?_
      refine AllReadyH.cons rfl (fun K hK => ?_) AllReadyH.nil
      refine step_ifM rfl ?_
      have X3 : Blk ((W1.alloc (.cells #[.int .i64 0, .string ⟨#[]⟩, .string ⟨#[]⟩, .slice none 0 0] 80)).alloc (.cells #[.int .i64 0, .string ⟨#[]⟩, .string ⟨#[]⟩, .slice none 0 0] 80)).drew (w.heap.size + 1) #[.int .i64 0, .string ⟨#[]⟩, .string ⟨#[]⟩, .slice none 0 0] 80 := (blk_new _ _ _ _ (by simp [Z1])).alloc _
      have Y3 : Blk ((W1.alloc (.cells #[.int .i64 0, .string ⟨#[]⟩, .string ⟨#[]⟩, .slice none 0 0] 80)).alloc (.cells #[.int .i64 0, .string ⟨#[]⟩, .string ⟨#[]⟩, .slice none 0 0] 80)).drew (w.heap.size + 2) #[.int .i64 0, .string ⟨#[]⟩, .string ⟨#[]⟩, .slice none 0 0] 80 := blk_new _ _ _ _ (by simp [Z1])
      refine wp_store_row 80 (.tmp 6) (.tmp 53) rfl (w.heap.size + 1) #[.int .i64 t.idx, .string t.key, .string t.dat, .slice sp t.sides.length sc] rfl rfl 80 _ X3 infoPt4 rfl (ptOne _ _ _ _ _ _) ?_
      refine hK.out _ _ ⟨keepRow hS.1 (by simp <;> omega), keepRow hS.2.1 (by simp <;> omega), keepRow hS.2.2.1 (by simp <;> omega), keepRow hS.2.2.2.1 (by simp <;> omega), keepRow hS.2.2.2.2.1 (by simp <;> omega), keepRow hS.2.2.2.2.2.1 (by simp <;> omega), keepRow hS.2.2.2.2.2.2.1 (by simp <;> omega), keepRow hS.2.2.2.2.2.2.2.1 (by simp <;> omega), keepRow hS.2.2.2.2.2.2.2.2 (by simp <;> omega)⟩ (fun hS => ?_)
      clear hK
      refine wpAnyH_ready (rs := [11]) (by kernel_rfl) (by simp) ?_
      refine AllReadyH.cons rfl (fun K hK => ?_) AllReadyH.nil
      refine step_ifM rfl ?_
      have X4 := X3.setRow #[.int .i64 t.idx, .string t.key, .string t.dat, .slice sp t.sides.length sc]
      have Y4 := Y3.setRowOther #[.int .i64 t.idx, .string t.key, .string t.dat, .slice sp t.sides.length sc] (j := w.heap.size + 1) (by omega)
      refine wp_store_row 80 (.tmp 7) (.tmp 57) rfl (w.heap.size + 2) #[.int .i64 u.idx, .string u.key, .string u.dat, .slice sp' u.sides.length sc'] rfl rfl 80 _ Y4 infoPt4 rfl (ptOne _ _ _ _ _ _) ?_
      refine hK.out _ _ ⟨keepRow hS.1 (by simp <;> omega), keepRow hS.2.1 (by simp <;> omega), keepRow hS.2.2.1 (by simp <;> omega), keepRow hS.2.2.2.1 (by simp <;> omega), keepRow hS.2.2.2.2.1 (by simp <;> omega), keepRow hS.2.2.2.2.2.1 (by simp <;> omega), keepRow hS.2.2.2.2.2.2.1 (by simp <;> omega), keepRow hS.2.2.2.2.2.2.2.1 (by simp <;> omega), keepRow hS.2.2.2.2.2.2.2.2 (by simp <;> omega)⟩ (fun hS => ?_)
      clear hK
      have X5 := X4.setRowOther #[.int .i64 u.idx, .string u.key, .string u.dat, .slice sp' u.sides.length sc'] (j := w.heap.size + 2) (by omega)
      have Y5 := Y4.setRow #[.int .i64 u.idx, .string u.key, .string u.dat, .slice sp' u.sides.length sc']
      obtain ⟨W5, hW5, k0, k1, j0, j1, B5⟩ : ∃ W5, (((W1.alloc (.cells #[.int .i64 0, .string ⟨#[]⟩, .string ⟨#[]⟩, .slice none 0 0] 80)).alloc (.cells #[.int .i64 0, .string ⟨#[]⟩, .string ⟨#[]⟩, .slice none 0 0] 80)).drew.setRow (w.heap.size + 1) #[.int .i64 t.idx, .string t.key, .string t.dat, .slice sp t.sides.length sc]).setRow (w.heap.size + 2) #[.int .i64 u.idx, .string u.key, .string u.dat, .slice sp' u.sides.length sc'] = W5 ∧ W5.cell? ⟨w.heap.size + 1, 0, none⟩ = some (.int .i64 t.idx) ∧ W5.cell? ⟨w.heap.size + 1, 1, none⟩ = some (.string t.key) ∧ W5.cell? ⟨w.heap.size + 2, 0, none⟩ = some (.int .i64 u.idx) ∧ W5.cell? ⟨w.heap.size + 2, 1, none⟩ = some (.string u.key) ∧ Below w.heap.size w W5 :=
        ⟨_, rfl, X5.cell rfl, X5.cell rfl, Y5.cell rfl, Y5.cell rfl, below_setRow (below_setRow (B1.trans (show Below w.heap.size W1 _ from (((Below.refl w.heap.size W1).alloc (by omega) _).alloc (by simp; omega) _).drew)) _ _ (by omega)) _ _ (by omega)⟩
      rw [hW5]
      refine wpAnyH_done (by kernel_rfl) ?_ _
      clear hW5 X3 Y3 X4 Y4 X5 Y5 hS e0 e1 m0 m1 m2 m3 n0 n1 n2 n3 n1' n2' n3' X1 hW1 Z1
      by_cases hx : u.idx = t.idx + 1
      · have dx : decide (u.idx = t.idx + 1) = true := decide_eq_true hx
        have dx' : (u.idx == t.idx + 1) = true := dx
        clear hx
        obtain ⟨L1, hL1⟩ : ∃ L1, Op.bytesLess t.key.toList key.toList = L1 := ⟨_, rfl⟩
        have hL1' : lsB t.key key = L1 := hL1
        rw [dx, hL1'] at HB
        cases L1
        · go_wp2
          go_ret
          exact ⟨by rw [HB.out]; rfl, B5⟩
        · go_wp2
          go_ret
          exact ⟨by rw [HB.out]; rfl, B5⟩
      · have dx : decide (u.idx = t.idx + 1) = false := decide_eq_false hx
        have dx' : (u.idx == t.idx + 1) = false := dx
        clear hx
        rw [dx] at HB
        go_wp2
        go_ret
        exact ⟨by rw [HB.out]; rfl, B5⟩
    · go_simp
      refine hK.out _ _ ⟨keepA hS.1, keepA hS.2.1, keepA hS.2.2.1, keepA hS.2.2.2.1, keepA hS.2.2.2.2.1, keepA hS.2.2.2.2.2.1, keepA hS.2.2.2.2.2.2.1, keepA hS.2.2.2.2.2.2.2.1, keepA hS.2.2.2.2.2.2.2.2⟩ (fun hS => ?_)
      clear hK
      refine wpAnyH_ready (rs := [8]) (by kernel_rfl) (by simp) ?_
      refine AllReadyH.cons rfl (fun K hK => ?_) AllReadyH.nil
      go_simp
      refine hK.out _ _ ⟨keepA hS.1, keepA hS.2.1, keepA hS.2.2.1, keepA hS.2.2.2.1, keepA hS.2.2.2.2.1, keepA hS.2.2.2.2.2.1, keepA hS.2.2.2.2.2.2.1, keepA hS.2.2.2.2.2.2.2.1, keepA hS.2.2.2.2.2.2.2.2⟩ (fun hS => ?_)
      clear hK
      refine wpAnyH_ready (rs := [10]) (by kernel_rfl) (by simp) ?_
      refine AllReadyH.cons rfl (fun K hK => ?_) AllReadyH.nil
      refine step_ifM rfl ?_
      have X3 : Blk ((W1.alloc (.cells #[.int .i64 0, .string ⟨#[]⟩, .string ⟨#[]⟩, .slice none 0 0] 80)).alloc (.cells #[.int .i64 0, .string ⟨#[]⟩, .string ⟨#[]⟩, .slice none 0 0] 80)).drew (w.heap.size + 2) #[.int .i64 0, .string ⟨#[]⟩, .string ⟨#[]⟩, .slice none 0 0] 80 := blk_new _ _ _ _ (by simp [Z1])
      have Y3 : Blk ((W1.alloc (.cells #[.int .i64 0, .string ⟨#[]⟩, .string ⟨#[]⟩, .slice none 0 0] 80)).alloc (.cells #[.int .i64 0, .string ⟨#[]⟩, .string ⟨#[]⟩, .slice none 0 0] 80)).drew (w.heap.size + 1) #[.int .i64 0, .string ⟨#[]⟩, .string ⟨#[]⟩, .slice none 0 0] 80 := (blk_new _ _ _ _ (by simp [Z1])).alloc _
      refine wp_store_row 80 (.tmp 6) (.tmp 53) rfl (w.heap.size + 2) #[.int .i64 t.idx, .string t.key, .string t.dat, .slice sp t.sides.length sc] rfl rfl 80 _ X3 infoPt4 rfl (ptOne _ _ _ _ _ _) ?_
      refine hK.out _ _ ⟨keepRow hS.1 (by simp <;> omega), keepRow hS.2.1 (by simp <;> omega), keepRow hS.2.2.1 (by simp <;> omega), keepRow hS.2.2.2.1 (by simp <;> omega), keepRow hS.2.2.2.2.1 (by simp <;> omega), keepRow hS.2.2.2.2.2.1 (by simp <;> omega), keepRow hS.2.2.2.2.2.2.1 (by simp <;> omega), keepRow hS.2.2.2.2.2.2.2.1 (by simp <;> omega), keepRow hS.2.2.2.2.2.2.2.2 (by simp <;> omega)⟩ (fun hS => ?_)
      clear hK
      refine wpAnyH_ready (rs := [11]) (by kernel_rfl) (by simp) ?_
      refine AllReadyH.cons rfl (fun K hK => ?_) AllReadyH.nil
      refine step_ifM rfl ?_
      have X4 := X3.setRow #[.int .i64 t.idx, .string t.key, .string t.dat, .slice sp t.sides.length sc]
      have Y4 := Y3.setRowOther #[.int .i64 t.idx, .string t.key, .string t.dat, .slice sp t.sides.length sc] (j := w.heap.size + 2) (by omega)
      refine wp_store_row 80 (.tmp 7) (.tmp 57) rfl (w.heap.size + 1) #[.int .i64 u.idx, .string u.key, .string u.dat, .slice sp' u.sides.length sc'] rfl rfl 80 _ Y4 infoPt4 rfl (ptOne _ _ _ _ _ _) ?_
      refine hK.out _ _ ⟨keepRow hS.1 (by simp <;> omega), keepRow hS.2.1 (by simp <;> omega), keepRow hS.2.2.1 (by simp <;> omega), keepRow hS.2.2.2.1 (by simp <;> omega), keepRow hS.2.2.2.2.1 (by simp <;> omega), keepRow hS.2.2.2.2.2.1 (by simp <;> omega), keepRow hS.2.2.2.2.2.2.1 (by simp <;> omega), keepRow hS.2.2.2.2.2.2.2.1 (by simp <;> omega), keepRow hS.2.2.2.2.2.2.2.2 (by simp <;> omega)⟩ (fun hS => ?_)
      clear hK
      have X5 := X4.setRowOther #[.int .i64 u.idx, .string u.key, .string u.dat, .slice sp' u.sides.length sc'] (j := w.heap.size + 1) (by omega)
      have Y5 := Y4.setRow #[.int .i64 u.idx, .string u.key, .string u.dat, .slice sp' u.sides.length sc']
      obtain ⟨W5, hW5, k0, k1, j0, j1, B5⟩ : ∃ W5, (((W1.alloc (.cells #[.int .i64 0, .string ⟨#[]⟩, .string ⟨#[]⟩, .slice none 0 0] 80)).alloc (.cells #[.int .i64 0, .string ⟨#[]⟩, .string ⟨#[]⟩, .slice none 0 0] 80)).drew.setRow (w.heap.size + 2) #[.int .i64 t.idx, .string t.key, .string t.dat, .slice sp t.sides.length sc]).setRow (w.heap.size + 1) #[.int .i64 u.idx, .string u.key, .string u.dat, .slice sp' u.sides.length sc'] = W5 ∧ W5.cell? ⟨w.heap.size + 2, 0, none⟩ = some (.int .i64 t.idx) ∧ W5.cell? ⟨w.heap.size + 2, 1, none⟩ = some (.string t.key) ∧ W5.cell? ⟨w.heap.size + 1, 0, none⟩ = some (.int .i64 u.idx) ∧ W5.cell? ⟨w.heap.size + 1, 1, none⟩ = some (.string u.key) ∧ Below w.heap.size w W5 :=
        ⟨_, rfl, X5.cell rfl, X5.cell rfl, Y5.cell rfl, Y5.cell rfl, below_setRow (below_setRow (B1.trans (show Below w.heap.size W1 _ from (((Below.refl w.heap.size W1).alloc (by omega) _).alloc (by simp; omega) _).drew)) _ _ (by omega)) _ _ (by omega)⟩
      rw [hW5]
      refine wpAnyH_done (by kernel_rfl) ?_ _
      clear hW5 X3 Y3 X4 Y4 X5 Y5 hS e0 e1 m0 m1 m2 m3 n0 n1 n2 n3 n1' n2' n3' X1 hW1 Z1
      by_cases hx : u.idx = t.idx + 1
      · have dx : decide (u.idx = t.idx + 1) = true := decide_eq_true hx
        have dx' : (u.idx == t.idx + 1) = true := dx
        clear hx
        obtain ⟨L1, hL1⟩ : ∃ L1, Op.bytesLess t.key.toList key.toList = L1 := ⟨_, rfl⟩
        have hL1' : lsB t.key key = L1 := hL1
        rw [dx, hL1'] at HB
        cases L1
        · go_wp2
          go_ret
          exact ⟨by rw [HB.out]; rfl, B5⟩
        · go_wp2
          go_ret
          exact ⟨by rw [HB.out]; rfl, B5⟩
      · have dx : decide (u.idx = t.idx + 1) = false := decide_eq_false hx
        have dx' : (u.idx == t.idx + 1) = false := dx
        clear hx
        rw [dx] at HB
        go_wp2
        go_ret
        exact ⟨by rw [HB.out]; rfl, B5⟩
end Go.Proofs.YtpcafjbebhcilaaGreat
