/- Which proofs may be, and what they show: the program's answers. -/
import Derived.Test.YtpcafjbebhcilaaGreatTm28
import Derived.Test.YtpcafjbebhcilaaGreatTm17
namespace Go.Proofs.YtpcafjbebhcilaaGreat
open Go.RowKit
set_option linter.unusedSimpArgs false
set_option linter.unusedVariables false
variable {p b x y : Nat} {T : List ByteArray} {S : List (Int × ByteArray)}

/-- How many sides there are beside the way from leaf i of n. -/
def hgtF : Nat → Nat → Nat → Nat
  | 0, _, _ => 0
  | f + 1, i, n => if n ≤ 1 then 0 else if i < hf n then hgtF f i (hf n) + 1 else hgtF f (i - hf n) (n - hf n) + 1
theorem hgtF_is : ∀ (f i n : Nat), i < n → n ≤ f → Hgt i n (hgtF f i n) := by
  intro f
  induction f with
  | zero => intro i n h1 h2; omega
  | succ f ih =>
    intro i n h1 h2
    by_cases hn : n ≤ 1
    · obtain rfl : n = 1 := by omega
      obtain rfl : i = 0 := by omega
      exact .one
    · obtain ⟨k1, k2⟩ := hf_bounds (n := n) (by omega)
      by_cases hi : i < hf n
      · have e : hgtF (f + 1) i n = hgtF f i (hf n) + 1 := by rw [hgtF, if_neg hn, if_pos hi]
        rw [e]
        exact .left i n _ (by omega) hi (ih _ _ hi (by omega))
      · have e : hgtF (f + 1) i n = hgtF f (i - hf n) (n - hf n) + 1 := by rw [hgtF, if_neg hn, if_neg hi]
        rw [e]
        exact .right i n _ (by omega) (by omega) (ih _ _ (by omega) (by omega))
def hgt (i n : Nat) : Nat := hgtF n i n
theorem hgt_is {i n : Nat} (h : i < n) : Hgt i n (hgt i n) := hgtF_is n i n h (Nat.le_refl _)
/-- A path that has a place, and as many sides as it must. -/
def ptFits (cnt : Int) (t : Pt) : Bool := decide (t.idx < cnt) && decide (t.sides.length = hgt t.idx.toNat cnt.toNat)
def pfFits (q : Pf) : Bool := pfOk q && q.paths.all (ptFits q.cnt)

theorem heightM_calls (i n : Nat) (w : World) (hi : i < n) (hn : n ≤ 4096) : Calls Tryz.prog 83 #[.int .i64 i, .int .i64 n] w fun e w' => e = .returned (.int .i64 (hgt i n)) ∧ w' = w :=
  (height_calls i n w hi hn).mono (fun e w' ⟨h, he, hh, hw⟩ => ⟨by rw [he, hh.same (hgt_is hi)], hw⟩)
theorem below_drewN (B : Nat) (w : World) (n : Nat) : Below B w (w.drewN n) := ⟨rfl, rfl, rfl, Nat.le_refl _, fun _ _ => rfl⟩
set_option maxHeartbeats 4000000 in
set_option maxRecDepth 100000 in
theorem isProofM_calls (q : Pf) (lv : Value) (w : World) (hs : Pts w lv q.paths) :
    Calls Tryz.prog 60 #[q.val lv] w fun e w' => e = .returned (.bool (pfFits q)) ∧ Below w.heap.size w w' := by
  obtain ⟨W1, hW1, X1, B1, Z1⟩ : ∃ W1, w.alloc (.cells #[.int .i64 q.cnt, lv] 36) = W1 ∧ Blk W1 w.heap.size #[.int .i64 q.cnt, lv] 36 ∧ Below w.heap.size w W1 ∧ W1.heap.size = w.heap.size + 1 :=
    ⟨_, rfl, blk_new _ _ _ _ rfl, by go_grown, by simp⟩
  have HP : Hid _ := putProof_calls q lv W1 (hs.below B1)
  unfold Pf.val at *
  have e0 : W1.cell? ⟨w.heap.size, 0, none⟩ = some (.int .i64 q.cnt) := X1.cell rfl
  have e1 : W1.cell? ⟨w.heap.size, 1, none⟩ = some lv := X1.cell rfl
  obtain ⟨a, cap, rfl⟩ := hs.len
  cases hok : pfOk q
  · have hR : proofR q = #[.string ⟨#[]⟩, .int .i64 14] := by unfold proofR; rw [if_neg (by rw [hok]; simp)]
    have hF : pfFits q = false := by unfold pfFits; rw [hok]; rfl
    rw [hR] at HP
    rw [hF]
    go_enter Tryz.func60, Tryz.ntmps60
    go_wp2_with fail
    refine Calls.mono HP.out ?_
    rintro e w2 ⟨rfl, b2⟩
    go_wp2
    go_ret
    exact ⟨rfl, chain B1 b2⟩
  · have hR : proofR q = #[.string ⟨(pfB q).toArray⟩, .int .i64 0] := by unfold proofR; rw [if_pos hok]
    rw [hR] at HP
    go_enter Tryz.func60, Tryz.ntmps60
    go_wp2_with fail
    refine Calls.mono HP.out ?_
    rintro e w2 ⟨rfl, b2⟩
    have f0 := keepCell b2 e0
    have f1 := keepCell b2 e1
    obtain ⟨⟨hc0, hc1⟩, hp2, hpt⟩ := pfOk_parts hok
    have HS : Hid _ := hs.below (chain B1 b2)
    have HPT : Hid _ := hpt
    have hok2 : pfFits q = q.paths.all (ptFits q.cnt) := by unfold pfFits; rw [hok]; rfl
    have HOK : Hid _ := hok2
    clear HP hR hs hpt hok2 hok e0 e1 X1 hW1
    obtain ⟨cn, hcn⟩ := Int.eq_ofNat_of_zero_le hc0
    go_wp2_with fail
    go_loopw [17] (fun i wr => ∃ k : Nat, k ≤ q.paths.length ∧ i = .int .i64 k ∧ Hid ((q.paths.take k).all (ptFits q.cnt) = true) ∧ Below w2.heap.size w2 wr) (fun i _ => q.paths.length - (intOf i).toNat)
    case atStart => exact ⟨0, Nat.zero_le _, rfl, rfl, Below.refl _ _⟩
    case round =>
      obtain ⟨k, hk, rfl, hall, hb⟩ := hrel
      by_cases hlt : k < q.paths.length
      · have hd : decide ((k : Int) < (q.paths.length : Int)) = true := by simp only [decide_eq_true_eq]; omega
        obtain ⟨g, off, sv, rfl, m0, m1, m2, m3, hst⟩ : ∃ g off sv, a = some ⟨g, off, none⟩ ∧ wr.cell? ⟨g, off + k * 4, none⟩ = some (.int .i64 q.paths[k].idx) ∧ wr.cell? ⟨g, off + k * 4 + 1, none⟩ = some (.string q.paths[k].key) ∧ wr.cell? ⟨g, off + k * 4 + 2, none⟩ = some (.string q.paths[k].dat) ∧ wr.cell? ⟨g, off + k * 4 + 3, none⟩ = some sv ∧ Strs w2 sv q.paths[k].sides := by
          rcases HS.out with ⟨_, h0⟩ | ⟨g, off, c, e, hx⟩
          · rw [h0] at hlt; simp at hlt
          · simp only [Value.slice.injEq] at e
            obtain ⟨sv, q1, q2, q3, q4, q5, _⟩ := hx k hlt
            exact ⟨g, off, sv, e.1, keepCell hb q1, keepCell hb q2, keepCell hb q3, keepCell hb q4, q5⟩
        obtain ⟨sp, sc, rfl⟩ := hst.len
        have hto := HPT.out q.paths[k] (List.getElem_mem hlt)
        have htk : (q.paths.take (k + 1)).all (ptFits q.cnt) = ((q.paths.take k).all (ptFits q.cnt) && ptFits q.cnt q.paths[k]) := by
          rw [List.take_succ_eq_append_getElem hlt, List.all_append]; simp
        have hfl : ptFits q.cnt q.paths[k] = false → q.paths.all (ptFits q.cnt) = false := fun h0 => by
          cases h1 : q.paths.all (ptFits q.cnt)
          · rfl
          · have := List.all_eq_true.1 h1 q.paths[k] (List.getElem_mem hlt); rw [h0] at this; cases this
        have HTK : Hid _ := htk
        have HFL : Hid _ := hfl
        clear htk hfl hst
        generalize q.paths[k] = t at *
        have hti : 0 ≤ t.idx ∧ t.idx ≤ 4095 ∧ t.sides.length ≤ 13 := by
          simp only [ptOk, Bool.and_eq_true, decide_eq_true_eq] at hto; omega
        obtain ⟨ti, htn⟩ := Int.eq_ofNat_of_zero_le hti.1
        obtain ⟨W3, hW3, X3, B3, Z3⟩ : ∃ W3, wr.alloc (.cells #[.int .i64 t.idx, .string t.key, .string t.dat, .slice sp t.sides.length sc] 80) = W3 ∧ Blk W3 wr.heap.size #[.int .i64 t.idx, .string t.key, .string t.dat, .slice sp t.sides.length sc] 80 ∧ Below wr.heap.size wr W3 ∧ W3.heap.size = wr.heap.size + 1 :=
          ⟨_, rfl, blk_new _ _ _ _ rfl, by go_grown, by simp⟩
        have g0 : W3.cell? ⟨wr.heap.size, 0, none⟩ = some (.int .i64 t.idx) := X3.cell rfl
        have g3 : W3.cell? ⟨wr.heap.size, 3, none⟩ = some (.slice sp t.sides.length sc) := X3.cell rfl
        have p0 := keepCell B3 (keepCell hb f0)
        have hcn4 : cn ≤ 4096 := by omega
        have hcq : q.cnt = (cn : Int) := hcn
        have HCN : Hid _ := hcn
        have HTN : Hid _ := htn
        clear HS HPT hto hcn htn hcq
        go_wp2_with fail
        clear f0 f1 m0 m1 m2 m3 hW3 X3 hc0 hc1 hti hd
        by_cases hge : q.cnt ≤ t.idx
        · have dge : decide (q.cnt ≤ t.idx) = true := decide_eq_true hge
          have hF : ptFits q.cnt t = false := by unfold ptFits; rw [decide_eq_false (by omega)]; rfl
          have HF : Hid _ := hF
          clear hF
          go_quiet (fail)
          go_wp2
          go_ret
          exact ⟨by rw [HOK.out, HFL.out HF.out]; rfl, (chain (chain B1 b2) (chain hb B3)).trans (below_drewN _ _ _)⟩
        · have dge : decide (q.cnt ≤ t.idx) = false := decide_eq_false hge
          have hlt2 : ti < cn := by have := HTN.out; have := HCN.out; omega
          have hht := fun wx => heightM_calls ti cn wx hlt2 hcn4
          rw [← HTN.out, ← HCN.out] at hht
          have HHT : Hid _ := hht
          have hpf : ptFits q.cnt t = decide (t.sides.length = hgt ti cn) := by
            unfold ptFits; rw [decide_eq_true (by omega), HTN.out, HCN.out]; simp
          have HPF : Hid _ := hpf
          clear hpf hht
          generalize hgt ti cn = hg at *
          by_cases hsl : t.sides.length = hg
          · have hF : ptFits q.cnt t = true := by rw [HPF.out]; exact decide_eq_true hsl
            have HF : Hid _ := hF
            have dn : ((t.sides.length : Int) == (hg : Int)) = true := by rw [hsl]; exact beq_self_eq_true _
            have dn1 : decide ((t.sides.length : Int) = (hg : Int)) = true := by rw [hsl]; exact decide_eq_true rfl
            have dn2 : ((t.sides.length : Int) != (hg : Int)) = false := by rw [hsl]; simp
            clear hsl hF
            go_quiet ((go_at_call 83; exact Calls.quiet_of_same (HHT.out _)))
            go_wp2
            refine ⟨⟨k + 1, by omega, by norm_cast, ?_, (chain hb B3).trans (below_drewN _ _ _)⟩, ?_⟩
            · show _ = _
              rw [HTK.out, hall.out, HF.out]; rfl
            · simp [intOf]; omega
          · have hF : ptFits q.cnt t = false := by rw [HPF.out]; exact decide_eq_false hsl
            have HF : Hid _ := hF
            have dn : ((t.sides.length : Int) == (hg : Int)) = false := by rw [beq_eq_false_iff_ne]; omega
            have dn1 : decide ((t.sides.length : Int) = (hg : Int)) = false := decide_eq_false (by omega)
            have dn2 : ((t.sides.length : Int) != (hg : Int)) = true := by rw [bne, dn]; rfl
            clear hF
            go_quiet ((go_at_call 83; exact Calls.quiet_of_same (HHT.out _)))
            go_wp2
            go_ret
            exact ⟨by rw [HOK.out, HFL.out HF.out]; rfl, (chain (chain B1 b2) (chain hb B3)).trans (below_drewN _ _ _)⟩
      · have hd : decide ((k : Int) < (q.paths.length : Int)) = false := by simp only [decide_eq_false_iff_not]; omega
        obtain rfl : k = q.paths.length := by omega
        go_wp2
        go_ret
        have := hall.out
        rw [List.take_length] at this
        exact ⟨by rw [HOK.out, this]; rfl, chain (chain B1 b2) hb⟩
end Go.Proofs.YtpcafjbebhcilaaGreat
