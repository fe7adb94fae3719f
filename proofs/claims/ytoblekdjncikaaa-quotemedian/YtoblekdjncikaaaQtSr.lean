/- The document's Sorted and Numbers. -/
import Derived.Test.YtoblekdjncikaaaQtSp
import Derived.Test.YtoblekdjncikaaaFl3
import Derived.Maps.AppendAt
namespace Go.Proofs.Ytoblekdjncikaaa
open Go.RowKit
set_option linter.unusedSimpArgs false
set_option linter.unusedVariables false

theorem own_baseF {w : World} {b b' n z : Nat} {t : TypeId} {v : Value} {xs : List Value} (h : w.ownsRow b t z v n xs) (hb : b' ≤ b) : w.ownsRow b' t z v n xs := by
  obtain ⟨h1, h2⟩ := h
  refine ⟨h1, ?_⟩
  rcases h2 with h2 | ⟨g, cap, cur, hv, hg, h3⟩
  · exact Or.inl h2
  · exact Or.inr ⟨g, cap, cur, hv, Nat.le_trans hb hg, h3⟩
theorem own_lenF {w : World} {b n z : Nat} {t : TypeId} {v : Value} {xs : List Value} (h : w.ownsRow b t z v n xs) : ∃ p c, v = .slice p n c := by
  obtain ⟨h1, ⟨rfl, h3⟩ | ⟨g, cap, cur, hv, hg, h3⟩⟩ := h
  · exact ⟨none, 0, by rw [h3]⟩
  · exact ⟨_, _, hv⟩
theorem own_cellF {w : World} {b n c : Nat} {p : Option Addr} {l : List Nat} (h : w.ownsRow b 24 1 (.slice p n c) n (flC l)) (m : Nat) (hm : m < l.length) (hn : l.length = n) :
    ∃ g, p = some ⟨g, 0, none⟩ ∧ n ≤ c ∧ g < w.heap.size ∧ w.cell? ⟨g, m, none⟩ = some (.float .f64 l[m]) := by
  obtain ⟨h1, ⟨hv, h3⟩ | ⟨g, cap, cur, hv, hg, hgg, hcap, _⟩⟩ := id h
  · omega
  · simp only [Value.slice.injEq] at hv
    obtain ⟨rfl, _, rfl⟩ := hv
    have hgl : g < w.heap.size := by
      rcases Nat.lt_or_ge g w.heap.size with h4 | h4
      · exact h4
      · rw [Array.getElem?_eq_none h4] at hgg; cases hgg
    have d0 := h.cells rfl _ _ (flC_at l m hm)
    rw [Addr.add_lit, Nat.zero_add] at d0
    exact ⟨g, rfl, hcap, hgl, d0⟩
/-- What the inner loop has made behind m. -/
def stI (x : Nat) (out : List Nat) (m : Nat) : List Nat × Bool := (out.take m).foldl (stepI x) ([], false)
theorem stI_succ (x : Nat) (out : List Nat) (m : Nat) (h : m < out.length) : stI x out (m + 1) = stepI x (stI x out m) out[m] := by
  unfold stI; rw [List.take_succ_eq_append_getElem h, List.foldl_append]; rfl
theorem stI_full (x : Nat) (out : List Nat) : finI x (stI x out out.length) = insR x out := by unfold stI insR; rw [List.take_length]
theorem stI_len (x : Nat) (out : List Nat) (m : Nat) (h : m ≤ out.length) : (stI x out m).1.length ≤ m + 1 := by
  have : ∀ (l : List Nat) (acc : List Nat × Bool), (l.foldl (stepI x) acc).1.length ≤ acc.1.length + l.length + (if acc.2 then 0 else 1) := by
    intro l
    induction l with
    | nil => intro acc; simp
    | cons a l ih =>
      intro acc
      rw [List.foldl_cons]
      refine Nat.le_trans (ih _) ?_
      unfold stepI
      cases hb : acc.2 <;> cases hl : lessR x a <;> simp <;> omega
  have := this (out.take m) ([], false)
  unfold stI
  simp at this
  omega

set_option maxHeartbeats 2000000 in
set_option maxRecDepth 100000 in
theorem refSorted_calls (lv : Value) (l : List Nat) (w : World) (hl : Fls w lv l) (hz : l.length ≤ 1000) :
    Calls Try.prog 12 #[lv] w fun e w' => ∃ v', e = .returned v' ∧ w'.ownsRow w.heap.size 24 1 v' l.length (flC (srtR l)) ∧ Below w.heap.size w w' := by
  have hnot : ∀ (x : Bool) (w : World), (Op.unary .not (.bool x)).run Try.prog w = .ok (.bool (!x)) w := fun _ _ => rfl
  obtain ⟨i0, hi, hz0, hz1, hz3⟩ := info_parts infoFl
  have HB : Hid _ := fls_bound hl
  obtain ⟨a, c, rfl, hc⟩ := hl.any
  have HC : Hid _ := hc
  clear hl hc
  go_enter Try.func12, Try.ntmps12
  go_wp2_with fail
  go_loopw [3, 4] (fun o i wr => ∃ k : Nat, k ≤ l.length ∧ i = .int .i64 k ∧ wr.ownsRow w.heap.size 24 1 o k (flC (srtR (l.take k))) ∧ Below w.heap.size w wr) (fun _ i _ => l.length - (intOf i).toNat)
  case atStart => exact ⟨0, Nat.zero_le _, rfl, World.ownsRow_nil _ _ _ _, Below.refl _ _⟩
  case round =>
    obtain ⟨k, hk, rfl, hO, hb⟩ := hrel
    obtain ⟨op, oc, rfl⟩ := own_lenF hO
    by_cases hlt : k < l.length
    · have hd : decide ((k : Int) < (l.length : Int)) = true := by simp only [decide_eq_true_eq]; omega
      obtain ⟨g, o, rfl, hlc, hg, hcc, hbx⟩ := HC.out k hlt
      have c1 : wr.cell? ⟨g, o + k, none⟩ = some (.float .f64 l[k]) := (hb.cell (p := ⟨g, o + k, none⟩) hg).trans (by simpa using hcc 0 _ rfl)
      have HS : Hid _ := show srtR (l.take (k + 1)) = insR (toldR l[k]) (srtR (l.take k)) by rw [List.take_succ_eq_append_getElem hlt, srtR_snoc]
      have hOL : (srtR (l.take k)).length = k := by rw [srtR_length, List.length_take]; omega
      have HOw : Hid _ := hO
      have HXB : Hid _ := fun z hz => (srtR_tld (l := l.take k) (fun q hq => HB.out q (List.mem_of_mem_take hq)) z hz).1
      generalize srtR (l.take k) = out at *
      have HX : Hid _ := toldR_lt hbx
      generalize l[k] = y at *
      clear hcc hO
      go_wp2_with fail
      refine (one_calls y _).mono ?_
      rintro e w1 ⟨rfl, rfl⟩
      generalize toldR y = x at *
      go_wp2_with fail
      rename World => W1
      go_loopw [6, 7, 8] (fun nx dn j wr2 => ∃ m : Nat, m ≤ k ∧ j = .int .i64 m ∧ dn = .bool (stI x out m).2 ∧ wr2.ownsRow W1.heap.size 24 1 nx (stI x out m).1.length (flC (stI x out m).1) ∧ Below W1.heap.size W1 wr2) (fun _ _ j _ => k - (intOf j).toNat)
      case atStart => exact ⟨0, Nat.zero_le _, rfl, rfl, World.ownsRow_nil _ _ _ _, Below.refl _ _⟩
      case round =>
        rename World => W2
        obtain ⟨m, hm, rfl, rfl, hN, hb2⟩ := hrel
        obtain ⟨np, nc, rfl⟩ := own_lenF hN
        have hsl := stI_len x out m (by omega)
        have hz2s := hb2.size
        by_cases hmk : m < k
        · have hd2 : decide ((m : Int) < (k : Int)) = true := by simp only [decide_eq_true_eq]; omega
          obtain ⟨g2, rfl, hoc, hg2, hcell⟩ := own_cellF HOw.out m (by omega) hOL
          have c2 : W2.cell? ⟨g2, m, none⟩ = some (.float .f64 out[m]) := (hb2.cell (p := ⟨g2, m, none⟩) hg2).trans hcell
          have HT : Hid _ := stI_succ x out m (by omega)
          have HL := fun wx => below_calls x out[m] wx
          have hxo := HXB.out out[m] (List.getElem_mem _)
          rw [← below_less HX.out hxo] at HL
          have HLs : Hid _ := HL
          clear HL hcell
          generalize out[m] = z at *
          generalize stI x out m = st at *
          obtain ⟨sl, sd⟩ := st
          simp only at hN hsl
          have HN : Hid _ := hN
          clear hN
          unfold stepI at HT
          simp only at HT
          cases sd
          · go_wp2_with fail
            refine (HLs.out _).mono ?_
            rintro e w3 ⟨rfl, rfl⟩
            cases hls : lessR x z
            · rw [hls] at HT
              go_wp2_with (at_builtin; refine wpList_append_own _ rfl (.tmp 40) (.tmp 45) 22 rfl W1.heap.size 24 i0 (.float .f64 0) 1 8 Try.underlying22 hi hz0 hz1 hz3 rfl (by decide) _ _ _ rfl (World.ownsRow.alloc HN.out _) ⟨w3.heap.size, 0, none⟩ 1 1 [.float .f64 z] rfl rfl ?c1 ?c2 ?c3 ?c4 ?c5 ?_)
              case c1 => exact cell_one_new _ _ _
              case c2 => intro u hu; simp at hu; subst hu; rfl
              case c3 => unfold maxLen; omega
              case c4 => omega
              case c5 => simp; omega
              intro v' w4 ho' hg' _
              go_wp2_with fail
              refine ⟨⟨m + 1, by omega, by go_num, by rw [HT.out]; rfl, ?_, ?_⟩, by simp [intOf]; omega⟩
              · rw [HT.out]; simp only [Bool.not_false, Bool.and_false, Bool.false_eq_true, if_false]
                rw [flC_snoc, List.length_append]; exact ho'
              · exact below_grownF (hb2.alloc (by omega) _) hg' (fun q hq => (World.ownsRow.lt HN.out q hq).1) (by simp; omega)
            · rw [hls] at HT
              go_wp2_with (at_builtin; refine wpList_append_own _ rfl (.tmp 36) (.tmp 38) 22 rfl W1.heap.size 24 i0 (.float .f64 0) 1 8 Try.underlying22 hi hz0 hz1 hz3 rfl (by decide) _ _ _ rfl (World.ownsRow.alloc HN.out _) ⟨w3.heap.size, 0, none⟩ 1 1 [.float .f64 x] rfl rfl ?c1 ?c2 ?c3 ?c4 ?c5 ?_)
              case c1 => exact cell_one_new _ _ _
              case c2 => intro u hu; simp at hu; subst hu; rfl
              case c3 => unfold maxLen; omega
              case c4 => omega
              case c5 => simp; omega
              intro v' w4 ho' hg' _
              have hb4 : Below W1.heap.size W1 w4 := below_grownF (hb2.alloc (by omega) _) hg' (fun q hq => (World.ownsRow.lt HN.out q hq).1) (by simp; omega)
              have c4 : w4.cell? ⟨g2, m, none⟩ = some (.float .f64 z) := by
                rw [hb4.cell (p := ⟨g2, m, none⟩) hg2, ← hb2.cell (p := ⟨g2, m, none⟩) hg2]; exact c2
              have hz4 := hb4.size
              have HO' : Hid _ := ho'
              clear ho' hg'
              go_wp2_with (at_builtin; refine wpList_append_own _ rfl (.tmp 40) (.tmp 45) 22 rfl W1.heap.size 24 i0 (.float .f64 0) 1 8 Try.underlying22 hi hz0 hz1 hz3 rfl (by decide) _ _ _ rfl (World.ownsRow.alloc HO'.out _) ⟨w4.heap.size, 0, none⟩ 1 1 [.float .f64 z] rfl rfl ?c1 ?c2 ?c3 ?c4 ?c5 ?_)
              case c1 => exact cell_one_new _ _ _
              case c2 => intro u hu; simp at hu; subst hu; rfl
              case c3 => unfold maxLen; omega
              case c4 => omega
              case c5 => simp; omega
              intro v5 w5 ho5 hg5 _
              go_wp2_with fail
              refine ⟨⟨m + 1, by omega, by go_num, by rw [HT.out]; rfl, ?_, ?_⟩, by simp [intOf]; omega⟩
              · rw [HT.out]; simp only [Bool.not_false, Bool.and_true, if_true]
                rw [flC_snoc, flC_snoc, List.length_append, List.length_append, List.append_assoc]; exact ho5
              · exact below_grownF (hb4.alloc (by omega) _) hg5 (fun q hq => (World.ownsRow.lt HO'.out q hq).1) (by simp; omega)
          · go_wp2_with (at_builtin; refine wpList_append_own _ rfl (.tmp 40) (.tmp 45) 22 rfl W1.heap.size 24 i0 (.float .f64 0) 1 8 Try.underlying22 hi hz0 hz1 hz3 rfl (by decide) _ _ _ rfl (World.ownsRow.alloc HN.out _) ⟨W2.heap.size, 0, none⟩ 1 1 [.float .f64 z] rfl rfl ?c1 ?c2 ?c3 ?c4 ?c5 ?_)
            case c1 => exact cell_one_new _ _ _
            case c2 => intro u hu; simp at hu; subst hu; rfl
            case c3 => unfold maxLen; omega
            case c4 => omega
            case c5 => simp; omega
            intro v' w4 ho' hg' _
            go_wp2_with fail
            refine ⟨⟨m + 1, by omega, by go_num, by rw [HT.out]; rfl, ?_, ?_⟩, by simp [intOf]; omega⟩
            · rw [HT.out]; simp only [Bool.not_true, Bool.false_and, Bool.false_eq_true, if_false]
              rw [flC_snoc, List.length_append]; exact ho'
            · exact below_grownF (hb2.alloc (by omega) _) hg' (fun q hq => (World.ownsRow.lt HN.out q hq).1) (by simp; omega)
        · have hd2 : decide ((m : Int) < (k : Int)) = false := by simp only [decide_eq_false_iff_not]; omega
          obtain rfl : m = k := by omega
          have HF : Hid _ := stI_full x out
          rw [hOL] at HF
          generalize stI x out m = st at *
          obtain ⟨sl, sd⟩ := st
          simp only at hN hsl
          have HN : Hid _ := hN
          clear hN
          have hlen : (insR x out).length = m + 1 := by rw [insR_eq, (insP_perm x out).length_eq, List.length_cons, hOL]
          unfold finI at HF
          simp only at HF
          cases sd
          · simp only [Bool.false_eq_true, if_false] at HF
            go_wp2_with (at_builtin; refine wpList_append_own _ rfl (.tmp 49) (.tmp 51) 22 rfl W1.heap.size 24 i0 (.float .f64 0) 1 8 Try.underlying22 hi hz0 hz1 hz3 rfl (by decide) _ _ _ rfl (World.ownsRow.alloc HN.out _) ⟨W2.heap.size, 0, none⟩ 1 1 [.float .f64 x] rfl rfl ?c1 ?c2 ?c3 ?c4 ?c5 ?_)
            case c1 => exact cell_one_new _ _ _
            case c2 => intro u hu; simp at hu; subst hu; rfl
            case c3 => unfold maxLen; omega
            case c4 => omega
            case c5 => simp; omega
            intro v' w4 ho' hg' _
            go_wp2_with fail
            refine ⟨⟨m + 1, by omega, by go_num, ?_, ?_⟩, by simp [intOf]; omega⟩
            · rw [HS.out, ← HF.out, flC_snoc]
              rw [← HF.out, List.length_append] at hlen
              rw [← hlen]
              exact own_baseF ho' hb.size
            · exact hb.trans ((below_grownF (hb2.alloc (by omega) _) hg' (fun q hq => (World.ownsRow.lt HN.out q hq).1) (by simp; omega)).mono hb.size)
          · simp only [if_true] at HF
            go_wp2_with fail
            refine ⟨⟨m + 1, by omega, by go_num, ?_, hb.trans (hb2.mono hb.size)⟩, by simp [intOf]; omega⟩
            rw [HS.out, ← HF.out]
            rw [← HF.out] at hlen
            rw [← hlen]
            exact own_baseF HN.out hb.size
    · have hd : decide ((k : Int) < (l.length : Int)) = false := by simp only [decide_eq_false_iff_not]; omega
      obtain rfl : k = l.length := by omega
      rw [List.take_length] at hO
      have HOw : Hid _ := hO
      clear hO
      go_wp2
      go_ret
      exact ⟨_, rfl, HOw.out, hb⟩

/-- Those that are numbers. -/
def nums (l : List Nat) : List Nat := l.filter fun x => !fnan x
theorem nums_snoc (l : List Nat) (k : Nat) (hk : k < l.length) : nums (l.take (k + 1)) = if fnan l[k] then nums (l.take k) else nums (l.take k) ++ [l[k]] := by
  unfold nums; rw [List.take_succ_eq_append_getElem hk, List.filter_append]; cases h : fnan l[k] <;> simp [h]
set_option maxHeartbeats 2000000 in
set_option maxRecDepth 100000 in
theorem numbers_calls (lv : Value) (l : List Nat) (w : World) (hl : Fls w lv l) (hz : l.length ≤ 1000) :
    Calls Try.prog 14 #[lv] w fun e w' => ∃ v', e = .returned v' ∧ w'.ownsRow w.heap.size 24 1 v' (nums l).length (flC (srtR (nums l))) ∧ Below w.heap.size w w' := by
  have hnot : ∀ (x : Bool) (w : World), (Op.unary .not (.bool x)).run Try.prog w = .ok (.bool (!x)) w := fun _ _ => rfl
  obtain ⟨i0, hi, hz0, hz1, hz3⟩ := info_parts infoFl
  have HB : Hid _ := fls_bound hl
  have HR : Hid _ := fun wx v hv => refSorted_calls v (nums l) wx hv (Nat.le_trans (List.length_filter_le _ _) hz)
  obtain ⟨a, c, rfl, hc⟩ := hl.any
  have HC : Hid _ := hc
  clear hl hc
  go_enter Try.func14, Try.ntmps14
  go_wp2_with fail
  go_loopw [3, 4] (fun o i wr => ∃ k : Nat, k ≤ l.length ∧ i = .int .i64 k ∧ wr.ownsRow w.heap.size 24 1 o (nums (l.take k)).length (flC (nums (l.take k))) ∧ Below w.heap.size w wr) (fun _ i _ => l.length - (intOf i).toNat)
  case atStart => exact ⟨0, Nat.zero_le _, rfl, World.ownsRow_nil _ _ _ _, Below.refl _ _⟩
  case round =>
    obtain ⟨k, hk, rfl, hO, hb⟩ := hrel
    have hzb := hb.size
    have hnl : (nums (l.take k)).length ≤ k := by refine Nat.le_trans (List.length_filter_le _ _) ?_; rw [List.length_take]; omega
    by_cases hlt : k < l.length
    · have hd : decide ((k : Int) < (l.length : Int)) = true := by simp only [decide_eq_true_eq]; omega
      obtain ⟨g, o, rfl, hlc, hg, hcc, hbx⟩ := HC.out k hlt
      have c1 : wr.cell? ⟨g, o + k, none⟩ = some (.float .f64 l[k]) := (hb.cell (p := ⟨g, o + k, none⟩) hg).trans (by simpa using hcc 0 _ rfl)
      have HS : Hid _ := nums_snoc l k hlt
      have HOw : Hid _ := hO
      generalize nums (l.take k) = out at *
      generalize l[k] = y at *
      clear hcc hO
      go_wp2_with fail
      refine (none_calls y _).mono ?_
      rintro e w1 ⟨rfl, rfl⟩
      cases hn : fnan y
      · rw [hn] at HS
        simp only [Bool.false_eq_true, if_false] at HS
        go_wp2_with (at_builtin; refine wpList_append_own _ rfl (.tmp 17) (.tmp 22) 22 rfl w.heap.size 24 i0 (.float .f64 0) 1 8 Try.underlying22 hi hz0 hz1 hz3 rfl (by decide) _ _ _ rfl (World.ownsRow.alloc HOw.out _) ⟨w1.heap.size, 0, none⟩ 1 1 [.float .f64 y] rfl rfl ?c1 ?c2 ?c3 ?c4 ?c5 ?_)
        case c1 => exact cell_one_new _ _ _
        case c2 => intro u hu; simp at hu; subst hu; rfl
        case c3 => unfold maxLen; omega
        case c4 => omega
        case c5 => simp; omega
        intro v' w4 ho' hg' _
        go_wp2_with fail
        refine ⟨⟨k + 1, by omega, by go_num, ?_, below_grownF (hb.alloc (by omega) _) hg' (fun q hq => (World.ownsRow.lt HOw.out q hq).1) (by simp; omega)⟩, by simp [intOf]; omega⟩
        rw [HS.out, flC_snoc, List.length_append]; exact ho'
      · rw [hn] at HS
        simp only [if_true] at HS
        go_wp2_with fail
        refine ⟨⟨k + 1, by omega, by go_num, ?_, hb⟩, by simp [intOf]; omega⟩
        rw [HS.out]; exact HOw.out
    · have hd : decide ((k : Int) < (l.length : Int)) = false := by simp only [decide_eq_false_iff_not]; omega
      obtain rfl : k = l.length := by omega
      rw [List.take_length] at hO
      have HF : Hid _ := fls_of_own hO (fun x hx => HB.out x (List.mem_filter.1 hx).1)
      clear hO
      go_wp2_with fail
      refine (HR.out _ _ HF.out).mono ?_
      rintro e w1 ⟨v', rfl, ho, hb1⟩
      go_wp2
      go_ret
      exact ⟨_, rfl, own_baseF ho hb.size, hb.trans (hb1.mono hb.size)⟩
end Go.Proofs.Ytoblekdjncikaaa
