/- AuthnApart for every slice of texts: what it answers. -/
import Derived.Test.YtpncomnfodiliaaAuX
namespace Go.Proofs.Ytpncomnfodiliaa
open Go.RowKit
set_option linter.unusedSimpArgs false
set_option linter.unusedVariables false

/-- Texts in a slice. -/
abbrev Txs (w : World) (v : Value) (l : List ByteArray) : Prop := Elems 1 (fun s : ByteArray => [.string s]) (fun s => s.size ≤ 140737488351232) w v l

/-- The digests of texts, as cells. -/
def dgs (T : List ByteArray) (l : List ByteArray) : List Value := l.map fun s => .string (eightB (num T s))
theorem dgs_note (T : List ByteArray) (l : List ByteArray) (s : ByteArray) (h : ∀ t ∈ l, t ∈ T) : dgs (note T s) l = dgs T l := by
  unfold dgs
  apply List.map_congr_left
  intro t ht
  rw [num_note s (h t ht)]

theorem dgs_at (T : List ByteArray) (l : List ByteArray) (k j : Nat) (hj : j < k) (hjl : j < l.length) : (dgs T (l.take k))[j]? = some (.string (eightB (num T l[j]))) := by
  simp [dgs, hj, hjl]

set_option maxHeartbeats 1000000 in
set_option maxRecDepth 100000 in
theorem apart_calls (v : Value) (l : List ByteArray) (w : World) (hl : Txs w v l) :
    Calls Try.prog 4 #[v] w fun e w' => e = .returned (.bool true) ∧ Below w.heap.size w w' := by
  have HN : Hid _ := newBook_calls
  have HA : Hid _ := awake_calls
  rcases hl with ⟨⟨pz, cz, rfl⟩, rfl⟩ | ⟨g, off, cap, rfl, hg, hcap, hc⟩
  · go_enter Try.func4, Try.ntmps4
    go_wp2_with fail
    refine (HN.out _).mono ?_
    rintro e w1 ⟨p, b, x, y, rfl, K1, b1, hp, hb, hx, hy⟩
    go_wp2
    refine wp_loop_rounds 1 ?_
    rw [rounds_succ]
    go_wp2
    refine wp_loop_rounds 1 ?_
    rw [rounds_succ]
    go_wp2_with fail
    refine (HA.out _).mono ?_
    rintro e w2 ⟨rfl, b2⟩
    go_wp2
    go_ret
    exact ⟨rfl, b1.trans (b2.mono b1.size)⟩
  · go_enter Try.func4, Try.ntmps4
    go_wp2_with fail
    refine (HN.out _).mono ?_
    rintro e w1 ⟨p, b, x, y, rfl, K1, b1, hp, hb, hx, hy⟩
    obtain ⟨i0, hi, hi0, hi1, hi2⟩ := info_parts infoStr
    have HC : Hid (∀ k (h : k < l.length), w.cell? ⟨g, off + k, none⟩ = some (.string l[k]) ∧ l[k].size ≤ 140737488351232) := fun k hk => by
      have := (hc k hk).1 0 (.string l[k]) rfl
      simp only [Nat.mul_one, Nat.add_zero] at this
      exact ⟨this, (hc k hk).2⟩
    clear hc
    by_cases hlen : 100 < l.length
    · have hd : decide ((100 : Int) < (l.length : Int)) = true := by simp only [decide_eq_true_eq]; omega
      have hc100 : 100 ≤ cap := by omega
      go_wp2_with fail
      generalize hm : (100 : Nat) = m at *
      go_loopw [4, 5] (fun dv i wr => ∃ (k : Nat) (T : List ByteArray), k ≤ m ∧ i = .int .i64 k ∧ T.length ≤ k ∧ (∀ s ∈ l.take k, s ∈ T) ∧ Book wr p b x y T [] ∧ wr.ownsRow w.heap.size 9 1 dv k (dgs T (l.take k)) ∧ Below w.heap.size w wr) (fun _ i _ => m - (intOf i).toNat)
      case atStart => exact ⟨0, [], Nat.zero_le _, rfl, Nat.le_refl _, by simp, K1, World.ownsRow_nil _ _ _ _, b1⟩
      case round =>
        obtain ⟨k, T, hk, rfl, hTl, hTm, K2, ho, hb2⟩ := hrel
        have hz2 := hb2.size
        by_cases hlt : k < m
        · have hdk : decide ((k : Int) < (m : Int)) = true := by simp only [decide_eq_true_eq]; omega
          have hcl := HC.out k (by omega)
          obtain ⟨c0, hs0⟩ := hcl
          have c1 := (hb2.cell (p := ⟨g, off + k, none⟩) hg).trans c0
          have hD := bookDigest_calls l[k] wr K2 (by omega) hs0
          have HD : Hid _ := hD
          clear hD c0
          generalize hsk : l[k] = s at *
          go_wp2_with fail
          refine Calls.mono HD.out ?_
          rintro e w3 ⟨rfl, K3, o3⟩
          have ho3 := own_off2 K2 ho o3
          have hb3 := o3.below hx hy hb2 hz2
          have hz3 := hb3.size
          go_wp2_with (at_builtin; refine wpList_append_own _ rfl _ _ 26 rfl w.heap.size 9 i0 (.string ⟨#[]⟩) 1 16 Try.underlying26 hi hi0 hi1 hi2 rfl (by decide) _ _ _ rfl (ho3.alloc _) ⟨w3.heap.size, 0, none⟩ 1 1 [.string (eightB (num (note T s) s))] rfl rfl ?c1 ?c2 ?c3 ?c4 ?c5 ?_)
          case c1 => exact cell_one_new _ _ _
          case c2 => intro u hu; simp at hu; subst hu; rfl
          case c3 => unfold maxLen; omega
          case c4 => omega
          case c5 => simp; omega
          intro v' w4 hown' hgrow _
          have K4 : Book w4 p b x y (note T s) [] := Book.grown (K3.below ((Below.refl _ _).alloc (Nat.le_refl _) _)) hgrow (K3.apart ho3 (by decide) (by decide))
          have hb4 : Below w.heap.size w w4 := below_grown (hb3.alloc (by omega) _) hgrow (fun k hk => (ho3.lt k hk).1) (by simp; omega)
          have htk : l.take (k + 1) = l.take k ++ [s] := by rw [List.take_succ_eq_append_getElem (by omega), hsk]
          have HT : Hid _ := htk
          clear htk
          go_wp2
          refine ⟨⟨k + 1, note T s, by omega, by norm_cast, Nat.le_trans (note_len T s) (by omega), ?_, K4, ?_, hb4⟩, ?_⟩
          · rw [HT.out]
            intro t ht
            rcases List.mem_append.1 ht with h1 | h1
            · exact (mem_note T s t).2 (Or.inl (hTm t h1))
            · exact (mem_note T s t).2 (Or.inr (by simpa using h1))
          · rw [HT.out]
            have : dgs (note T s) (l.take k ++ [s]) = dgs T (l.take k) ++ [.string (eightB (num (note T s) s))] := by
              rw [← dgs_note T (l.take k) s hTm]; simp [dgs]
            rw [this]
            exact hown'
          · simp [intOf]; omega
        · have hdk : decide ((k : Int) < (m : Int)) = false := by simp only [decide_eq_false_iff_not]; omega
          obtain rfl : k = m := by omega
          go_wp2_with fail
          go_loopw [6] (fun i wr => ∃ (j : Nat), j ≤ k ∧ i = .int .i64 j ∧ Book wr p b x y T [] ∧ wr.ownsRow w.heap.size 9 1 u4 k (dgs T (l.take k)) ∧ Below w.heap.size w wr) (fun i _ => k - (intOf i).toNat)
          case atStart => exact ⟨0, Nat.zero_le _, rfl, K2, ho, hb2⟩
          case round =>
            obtain ⟨j, hj, rfl, K5, ho5, hb5⟩ := hrel
            have hz5 := hb5.size
            by_cases hjt : j < k
            · have hdj : decide ((j : Int) < (k : Int)) = true := by simp only [decide_eq_true_eq]; omega
              obtain ⟨g2, cap2, rfl, hg2, hcap2, hrow⟩ := own_at ho5 (by omega)
              obtain ⟨c0, hs0⟩ := HC.out j (by omega)
              have c1 := (hb5.cell (p := ⟨g, off + j, none⟩) hg).trans c0
              have hmem : l[j] ∈ T := hTm _ (List.mem_take_iff_getElem.2 ⟨j, by omega, rfl⟩)
              have hD : ∀ x0 : BW wr, Calls Try.prog 12 #[.pointer (some ⟨p, 0, none⟩), .string l[j]] x0.w fun e w' => e = .returned (.string (eightB (num T l[j]))) ∧ Below x0.w.heap.size x0.w w' := fun x0 => bookDigest_old l[j] x0.w (K5.below x0.h) (by omega) hmem
              have r1 : wr.cell? ⟨g2, j, none⟩ = some (.string (eightB (num T l[j]))) := hrow j _ (dgs_at T l k j (by omega) (by omega))
              obtain ⟨D, hDD⟩ : ∃ D, eightB (num T l[j]) = D := ⟨_, rfl⟩
              have hsz : D.size = 8 := by rw [← hDD]; rfl
              rw [hDD] at hD r1
              have HD : Hid _ := hD
              clear hD c0
              have hne := bw_some wr
              have q1 : ∀ x0 : BW wr, x0.w.cell? ⟨g, off + j, none⟩ = some (.string l[j]) := fun x0 => x0.cell c1
              have q2 : ∀ x0 : BW wr, x0.w.cell? ⟨g2, j, none⟩ = some (.string D) := fun x0 => x0.cell r1
              go_wp2_with fail
              refine wp_region_below (by kernel_rfl) (by kernel_rfl) ?_
              repeat (quiet_step (first | (go_at_call 12; exact BW.call _ (HD.out _))))
              refine wpQuiet_nil ?_
              rintro w6 ⟨⟨_, b6⟩, rfl⟩
              have ho6 := own_below ho5 b6
              have K6 := K5.below b6
              have hb6 := hb5.trans (b6.mono hz5)
              have hz6 := hb6.size
              go_wp2_with fail
              have hcl : w6.cell? ⟨g, off + j, none⟩ = some (.string l[j]) := (b6.cell (p := ⟨g, off + j, none⟩) (Nat.lt_of_lt_of_le hg hz5)).trans c1
              have hcd : w6.cell? ⟨g2, j, none⟩ = some (.string D) := (b6.cell (p := ⟨g2, j, none⟩) (World.block_lt_of_cell? wr _ r1)).trans r1
              have HI : Hid (∀ i (h : i < j), w6.cell? ⟨g, off + i, none⟩ = some (.string (l.getD i ⟨#[]⟩)) ∧ ∃ D2, w6.cell? ⟨g2, i, none⟩ = some (.string D2) ∧ (D.toList == D2.toList) = (l[j].toList == (l.getD i ⟨#[]⟩).toList)) := fun i hij => by
                have hil : i < l.length := by omega
                have hgd : l.getD i ⟨#[]⟩ = l[i] := by rw [List.getD_eq_getElem?_getD, List.getElem?_eq_getElem hil]; rfl
                have hgl : w.cell? ⟨g, off + i, none⟩ = some (.string l[i]) := (HC.out i hil).1
                obtain ⟨_, _, heq, _, _, hrow6⟩ := own_at ho6 (by omega)
                simp only [Value.slice.injEq, Option.some.injEq, Addr.mk.injEq] at heq
                obtain ⟨⟨rfl, _⟩, _⟩ := heq
                have hmi : l[i] ∈ T := hTm _ (List.mem_take_iff_getElem.2 ⟨i, by omega, rfl⟩)
                rw [hgd]
                refine ⟨(hb6.cell (p := ⟨g, off + i, none⟩) hg).trans hgl, _, hrow6 i _ (dgs_at T l k i (by omega) hil), ?_⟩
                rw [strEq, strEq, ← hDD]
                have hn1 := num_le T l[j]
                have hn2 := num_le T l[i]
                by_cases he : l[j] = l[i]
                · rw [he]; simp
                · rw [decide_eq_false he, decide_eq_false (fun e => he (num_inj hmem hmi (eightB_inj (by omega) (by omega) e)))]
              rename World => w6
              go_loopw [7] (fun i wr => ∃ q : Nat, q ≤ j ∧ i = .int .i64 q ∧ Below w6.heap.size w6 wr) (fun i _ => j - (intOf i).toNat)
              case atStart => exact ⟨0, Nat.zero_le _, rfl, Below.refl _ _⟩
              case round =>
                rename World => w7
                obtain ⟨q, hq, rfl, b7⟩ := hrel
                have hz7 := b7.size
                by_cases hqt : q < j
                · have hdq : decide ((q : Int) < (j : Int)) = true := by simp only [decide_eq_true_eq]; omega
                  obtain ⟨e1, D2, e2, e3⟩ := HI.out q hqt
                  have hne7 := bw_some w7
                  have f1 : ∀ x0 : BW w7, x0.w.cell? ⟨g, off + q, none⟩ = some (.string (l.getD q ⟨#[]⟩)) := fun x0 => x0.cell (keepCell b7 e1)
                  have f2 : ∀ x0 : BW w7, x0.w.cell? ⟨g2, q, none⟩ = some (.string D2) := fun x0 => x0.cell (keepCell b7 e2)
                  have f3 : ∀ x0 : BW w7, x0.w.cell? ⟨g, off + j, none⟩ = some (.string l[j]) := fun x0 => x0.cell (keepCell b7 hcl)
                  have f4 : ∀ x0 : BW w7, x0.w.cell? ⟨g2, j, none⟩ = some (.string D) := fun x0 => x0.cell (keepCell b7 hcd)
                  have hqk : q < k := by omega
                  clear HI
                  generalize l.getD q ⟨#[]⟩ = lq at *
                  generalize l[j] = lj at *
                  go_wp2_with fail
                  refine wp_region_below (by kernel_rfl) (by kernel_rfl) ?_
                  repeat (quiet_step (fail))
                  refine wpQuiet_nil ?_
                  rintro w8 ⟨⟨_, b8⟩, rfl⟩
                  have b78 := b7.trans (b8.mono hz7)
                  go_wp2
                  refine ⟨⟨q + 1, by omega, by norm_cast, b78⟩, ?_⟩
                  simp [intOf]; omega
                · have hdq : decide ((q : Int) < (j : Int)) = false := by simp only [decide_eq_false_iff_not]; omega
                  go_wp2
                  refine ⟨⟨j + 1, by omega, by norm_cast, K6.below b7, own_below ho6 b7, hb6.trans (b7.mono hz6)⟩, ?_⟩
                  simp [intOf]; omega
            · have hdj : decide ((j : Int) < (k : Int)) = false := by simp only [decide_eq_false_iff_not]; omega
              go_wp2_with fail
              refine (HA.out _).mono ?_
              rintro e w6 ⟨rfl, b6⟩
              go_wp2
              go_ret
              exact ⟨rfl, hb5.trans (b6.mono (by omega))⟩
    · have hd : decide ((100 : Int) < (l.length : Int)) = false := by simp only [decide_eq_false_iff_not]; omega
      go_wp2_with fail
      obtain ⟨m, hm⟩ : ∃ m : Nat, l.length = m := ⟨_, rfl⟩
      rw [hm]
      go_loopw [4, 5] (fun dv i wr => ∃ (k : Nat) (T : List ByteArray), k ≤ m ∧ i = .int .i64 k ∧ T.length ≤ k ∧ (∀ s ∈ l.take k, s ∈ T) ∧ Book wr p b x y T [] ∧ wr.ownsRow w.heap.size 9 1 dv k (dgs T (l.take k)) ∧ Below w.heap.size w wr) (fun _ i _ => m - (intOf i).toNat)
      case atStart => exact ⟨0, [], Nat.zero_le _, rfl, Nat.le_refl _, by simp, K1, World.ownsRow_nil _ _ _ _, b1⟩
      case round =>
        obtain ⟨k, T, hk, rfl, hTl, hTm, K2, ho, hb2⟩ := hrel
        have hz2 := hb2.size
        by_cases hlt : k < m
        · have hdk : decide ((k : Int) < (m : Int)) = true := by simp only [decide_eq_true_eq]; omega
          have hcl := HC.out k (by omega)
          obtain ⟨c0, hs0⟩ := hcl
          have c1 := (hb2.cell (p := ⟨g, off + k, none⟩) hg).trans c0
          have hD := bookDigest_calls l[k] wr K2 (by omega) hs0
          have HD : Hid _ := hD
          clear hD c0
          generalize hsk : l[k] = s at *
          go_wp2_with fail
          refine Calls.mono HD.out ?_
          rintro e w3 ⟨rfl, K3, o3⟩
          have ho3 := own_off2 K2 ho o3
          have hb3 := o3.below hx hy hb2 hz2
          have hz3 := hb3.size
          go_wp2_with (at_builtin; refine wpList_append_own _ rfl _ _ 26 rfl w.heap.size 9 i0 (.string ⟨#[]⟩) 1 16 Try.underlying26 hi hi0 hi1 hi2 rfl (by decide) _ _ _ rfl (ho3.alloc _) ⟨w3.heap.size, 0, none⟩ 1 1 [.string (eightB (num (note T s) s))] rfl rfl ?c1 ?c2 ?c3 ?c4 ?c5 ?_)
          case c1 => exact cell_one_new _ _ _
          case c2 => intro u hu; simp at hu; subst hu; rfl
          case c3 => unfold maxLen; omega
          case c4 => omega
          case c5 => simp; omega
          intro v' w4 hown' hgrow _
          have K4 : Book w4 p b x y (note T s) [] := Book.grown (K3.below ((Below.refl _ _).alloc (Nat.le_refl _) _)) hgrow (K3.apart ho3 (by decide) (by decide))
          have hb4 : Below w.heap.size w w4 := below_grown (hb3.alloc (by omega) _) hgrow (fun k hk => (ho3.lt k hk).1) (by simp; omega)
          have htk : l.take (k + 1) = l.take k ++ [s] := by rw [List.take_succ_eq_append_getElem (by omega), hsk]
          have HT : Hid _ := htk
          clear htk
          go_wp2
          refine ⟨⟨k + 1, note T s, by omega, by norm_cast, Nat.le_trans (note_len T s) (by omega), ?_, K4, ?_, hb4⟩, ?_⟩
          · rw [HT.out]
            intro t ht
            rcases List.mem_append.1 ht with h1 | h1
            · exact (mem_note T s t).2 (Or.inl (hTm t h1))
            · exact (mem_note T s t).2 (Or.inr (by simpa using h1))
          · rw [HT.out]
            have : dgs (note T s) (l.take k ++ [s]) = dgs T (l.take k) ++ [.string (eightB (num (note T s) s))] := by
              rw [← dgs_note T (l.take k) s hTm]; simp [dgs]
            rw [this]
            exact hown'
          · simp [intOf]; omega
        · have hdk : decide ((k : Int) < (m : Int)) = false := by simp only [decide_eq_false_iff_not]; omega
          obtain rfl : k = m := by omega
          go_wp2_with fail
          go_loopw [6] (fun i wr => ∃ (j : Nat), j ≤ k ∧ i = .int .i64 j ∧ Book wr p b x y T [] ∧ wr.ownsRow w.heap.size 9 1 u4 k (dgs T (l.take k)) ∧ Below w.heap.size w wr) (fun i _ => k - (intOf i).toNat)
          case atStart => exact ⟨0, Nat.zero_le _, rfl, K2, ho, hb2⟩
          case round =>
            obtain ⟨j, hj, rfl, K5, ho5, hb5⟩ := hrel
            have hz5 := hb5.size
            by_cases hjt : j < k
            · have hdj : decide ((j : Int) < (k : Int)) = true := by simp only [decide_eq_true_eq]; omega
              obtain ⟨g2, cap2, rfl, hg2, hcap2, hrow⟩ := own_at ho5 (by omega)
              obtain ⟨c0, hs0⟩ := HC.out j (by omega)
              have c1 := (hb5.cell (p := ⟨g, off + j, none⟩) hg).trans c0
              have hmem : l[j] ∈ T := hTm _ (List.mem_take_iff_getElem.2 ⟨j, by omega, rfl⟩)
              have hD : ∀ x0 : BW wr, Calls Try.prog 12 #[.pointer (some ⟨p, 0, none⟩), .string l[j]] x0.w fun e w' => e = .returned (.string (eightB (num T l[j]))) ∧ Below x0.w.heap.size x0.w w' := fun x0 => bookDigest_old l[j] x0.w (K5.below x0.h) (by omega) hmem
              have r1 : wr.cell? ⟨g2, j, none⟩ = some (.string (eightB (num T l[j]))) := hrow j _ (dgs_at T l k j (by omega) (by omega))
              obtain ⟨D, hDD⟩ : ∃ D, eightB (num T l[j]) = D := ⟨_, rfl⟩
              have hsz : D.size = 8 := by rw [← hDD]; rfl
              rw [hDD] at hD r1
              have HD : Hid _ := hD
              clear hD c0
              have hne := bw_some wr
              have q1 : ∀ x0 : BW wr, x0.w.cell? ⟨g, off + j, none⟩ = some (.string l[j]) := fun x0 => x0.cell c1
              have q2 : ∀ x0 : BW wr, x0.w.cell? ⟨g2, j, none⟩ = some (.string D) := fun x0 => x0.cell r1
              go_wp2_with fail
              refine wp_region_below (by kernel_rfl) (by kernel_rfl) ?_
              repeat (quiet_step (first | (go_at_call 12; exact BW.call _ (HD.out _))))
              refine wpQuiet_nil ?_
              rintro w6 ⟨⟨_, b6⟩, rfl⟩
              have ho6 := own_below ho5 b6
              have K6 := K5.below b6
              have hb6 := hb5.trans (b6.mono hz5)
              have hz6 := hb6.size
              go_wp2_with fail
              have hcl : w6.cell? ⟨g, off + j, none⟩ = some (.string l[j]) := (b6.cell (p := ⟨g, off + j, none⟩) (Nat.lt_of_lt_of_le hg hz5)).trans c1
              have hcd : w6.cell? ⟨g2, j, none⟩ = some (.string D) := (b6.cell (p := ⟨g2, j, none⟩) (World.block_lt_of_cell? wr _ r1)).trans r1
              have HI : Hid (∀ i (h : i < j), w6.cell? ⟨g, off + i, none⟩ = some (.string (l.getD i ⟨#[]⟩)) ∧ ∃ D2, w6.cell? ⟨g2, i, none⟩ = some (.string D2) ∧ (D.toList == D2.toList) = (l[j].toList == (l.getD i ⟨#[]⟩).toList)) := fun i hij => by
                have hil : i < l.length := by omega
                have hgd : l.getD i ⟨#[]⟩ = l[i] := by rw [List.getD_eq_getElem?_getD, List.getElem?_eq_getElem hil]; rfl
                have hgl : w.cell? ⟨g, off + i, none⟩ = some (.string l[i]) := (HC.out i hil).1
                obtain ⟨_, _, heq, _, _, hrow6⟩ := own_at ho6 (by omega)
                simp only [Value.slice.injEq, Option.some.injEq, Addr.mk.injEq] at heq
                obtain ⟨⟨rfl, _⟩, _⟩ := heq
                have hmi : l[i] ∈ T := hTm _ (List.mem_take_iff_getElem.2 ⟨i, by omega, rfl⟩)
                rw [hgd]
                refine ⟨(hb6.cell (p := ⟨g, off + i, none⟩) hg).trans hgl, _, hrow6 i _ (dgs_at T l k i (by omega) hil), ?_⟩
                rw [strEq, strEq, ← hDD]
                have hn1 := num_le T l[j]
                have hn2 := num_le T l[i]
                by_cases he : l[j] = l[i]
                · rw [he]; simp
                · rw [decide_eq_false he, decide_eq_false (fun e => he (num_inj hmem hmi (eightB_inj (by omega) (by omega) e)))]
              rename World => w6
              go_loopw [7] (fun i wr => ∃ q : Nat, q ≤ j ∧ i = .int .i64 q ∧ Below w6.heap.size w6 wr) (fun i _ => j - (intOf i).toNat)
              case atStart => exact ⟨0, Nat.zero_le _, rfl, Below.refl _ _⟩
              case round =>
                rename World => w7
                obtain ⟨q, hq, rfl, b7⟩ := hrel
                have hz7 := b7.size
                by_cases hqt : q < j
                · have hdq : decide ((q : Int) < (j : Int)) = true := by simp only [decide_eq_true_eq]; omega
                  obtain ⟨e1, D2, e2, e3⟩ := HI.out q hqt
                  have hne7 := bw_some w7
                  have f1 : ∀ x0 : BW w7, x0.w.cell? ⟨g, off + q, none⟩ = some (.string (l.getD q ⟨#[]⟩)) := fun x0 => x0.cell (keepCell b7 e1)
                  have f2 : ∀ x0 : BW w7, x0.w.cell? ⟨g2, q, none⟩ = some (.string D2) := fun x0 => x0.cell (keepCell b7 e2)
                  have f3 : ∀ x0 : BW w7, x0.w.cell? ⟨g, off + j, none⟩ = some (.string l[j]) := fun x0 => x0.cell (keepCell b7 hcl)
                  have f4 : ∀ x0 : BW w7, x0.w.cell? ⟨g2, j, none⟩ = some (.string D) := fun x0 => x0.cell (keepCell b7 hcd)
                  have hqk : q < k := by omega
                  clear HI
                  generalize l.getD q ⟨#[]⟩ = lq at *
                  generalize l[j] = lj at *
                  go_wp2_with fail
                  refine wp_region_below (by kernel_rfl) (by kernel_rfl) ?_
                  repeat (quiet_step (fail))
                  refine wpQuiet_nil ?_
                  rintro w8 ⟨⟨_, b8⟩, rfl⟩
                  have b78 := b7.trans (b8.mono hz7)
                  go_wp2
                  refine ⟨⟨q + 1, by omega, by norm_cast, b78⟩, ?_⟩
                  simp [intOf]; omega
                · have hdq : decide ((q : Int) < (j : Int)) = false := by simp only [decide_eq_false_iff_not]; omega
                  go_wp2
                  refine ⟨⟨j + 1, by omega, by norm_cast, K6.below b7, own_below ho6 b7, hb6.trans (b7.mono hz6)⟩, ?_⟩
                  simp [intOf]; omega
            · have hdj : decide ((j : Int) < (k : Int)) = false := by simp only [decide_eq_false_iff_not]; omega
              go_wp2_with fail
              refine (HA.out _).mono ?_
              rintro e w6 ⟨rfl, b6⟩
              go_wp2
              go_ret
              exact ⟨rfl, hb5.trans (b6.mono (by omega))⟩
end Go.Proofs.Ytpncomnfodiliaa
