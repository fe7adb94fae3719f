/- The document's Of: a book of bytes. -/
import Derived.Test.YtlhfdgeknpmdfaaCaOd
import Derived.Test.YtlhfdgeknpmdfaaCdA
import Derived.Test.YtlhfdgeknpmdfaaRefI
import Derived.Test.YtlhfdgeknpmdfaaCaRi
import Derived.Deep.DeepCutAuto
import Derived.Deep.CutBlock
namespace Go.Proofs.Ytlhfdgeknpmdfaa
open Go.RowKit
set_option linter.unusedSimpArgs false
set_option linter.unusedVariables false

theorem refOf_results {w' : World} {c0 c1 v : Value} {r : Nat} (X : Blk w' r #[c0, c1] 34) {t : Array Value} (h1 : t.getD 2 undef = .pointer (some ⟨r, 0, none⟩)) (h2 : t.getD 3 undef = v) :
    (results Try.f9 t).run Try.prog w' = .ok (.tuple #[.agg #[c0, c1], v]) w' := by
  have a0 := X.cell (o := 0) rfl
  have a1 := X.cell (o := 1) rfl
  simp only [Array.getD_eq_getD_getElem?] at h1 h2
  simp [results, Try.results9, go_sem, h1, h2, a0, a1]
def nmD (s : ByteArray) : Option (List Int) := nmF 401 s.data.toList
def OfD (s : ByteArray) : Prop := ∃ ms, nmD s = some ms ∧ GoodD ms
theorem nmD_fit {s : ByteArray} {ms : List Int} (h : nmD s = some ms) : ms.length ≤ 401 ∧ ∀ i, 0 ≤ nAt ms i ∧ nAt ms i ≤ 9007199254740992 := by
  obtain ⟨_, h2, h3⟩ := nmF_canon 401 _ ms h
  refine ⟨h2, fun i => ?_⟩
  by_cases hi : i < ms.length
  · have := nAt_get hi
    exact h3 _ (List.mem_of_getElem? this)
  · unfold nAt
    rw [List.getD_eq_getElem?_getD, List.getElem?_eq_none (by omega)]
    decide
/-- What is true behind so many orders of the document's. -/
structure OfJ (w0 w : World) (ms : List Int) (v : Value) (p : Nat) (j : Nat) (lv : Value) : Prop where
  ok : ∀ i, i < j → okD ms i = true
  ints : w.ownsRow (w0.heap.size + 1) 3 1 v ms.length (iLu ms)
  res : Blk w w0.heap.size #[.slice none 0 0, .int .i64 0] 34
  blk : Blk w p #[lv, .int .i64 (nAt ms 0)] 34
  row : w.ownsRow (p + 1) 28 6 lv (rdK ms j).length (odL (rdK ms j))
  lo : Below w0.heap.size w0 w
theorem OfJ.below {w0 w w' : World} {ms : List Int} {v : Value} {p j : Nat} {lv : Value} (h : OfJ w0 w ms v p j lv) (hb : Below w.heap.size w w') : OfJ w0 w' ms v p j lv :=
  ⟨h.ok, ownB h.ints hb, h.res.below hb, h.blk.below hb, ownB h.row hb, h.lo.trans (hb.mono h.lo.size)⟩
def RefOfP (s : ByteArray) (w : World) (e : Ending) (w' : World) : Prop := Below w.heap.size w w' ∧ ((¬ OfD s ∧ ∃ q n c x, e = .returned (.tuple #[.agg #[.slice q n c, .int .i64 x], .bool false])) ∨ ∃ ms lv, nmD s = some ms ∧ GoodD ms ∧ e = .returned (.tuple #[.agg #[lv, .int .i64 (nAt ms 0)], .bool true]) ∧ Ods w' lv (rdK ms (cntN ms)) ∧ ∀ k, lv.ownBlock = some k → w.heap.size ≤ k ∧ k < w'.heap.size)
theorem ods_row {w0 w W : World} {ms : List Int} {v : Value} {p j : Nat} {lv : Value} {cs : Array Value} (hW : w.drew.setRow w0.heap.size cs = W) {l : List Od} (h : Ods w lv l) (hI : OfJ w0 w ms v p j lv) (hp : w0.heap.size < p) : Ods W lv l := by
  obtain ⟨pp, cap, rfl, hc⟩ := h
  refine ⟨pp, cap, rfl, ?_⟩
  rcases hc with h1 | ⟨g, off, rfl, hx⟩
  · exact Or.inl h1
  · refine Or.inr ⟨g, off, rfl, fun k x i u h2 h3 => ?_⟩
    refine rowK hW (hx k x i u h2 h3) ?_
    show g ≠ w0.heap.size
    intro e
    rcases hI.row.2 with ⟨q, _⟩ | ⟨g', c', cur', q, hlt, _⟩
    · cases q
    · injection q with q _ _
      injection q with q
      injection q with q
      omega
set_option maxHeartbeats 8000000 in
set_option maxRecDepth 100000 in
theorem refOf_calls (s : ByteArray) (w : World) (hs : s.size ≤ 140737488351232) :
    Calls Try.prog 9 #[.string s] w (RefOfP s w) := by
  obtain ⟨i0, hi, hz0, hz1, hz2⟩ := info_parts infoIntU
  obtain ⟨i6, hi6, hy0, hy1, hy2⟩ := info_parts infoOd6
  have hsm : s.size ≤ maxLen := by unfold maxLen; omega
  obtain ⟨W1, hW1, X1, B1⟩ : ∃ W1, w.alloc (.cells #[.slice none 0 0, .int .i64 0] 34) = W1 ∧ Blk W1 w.heap.size #[.slice none 0 0, .int .i64 0] 34 ∧ Below w.heap.size w W1 := ⟨_, rfl, blk_new _ _ _ _ rfl, by go_grown⟩
  have HX1 : Hid _ := And.intro X1 B1
  clear X1 B1
  go_enter Try.func9, Try.ntmps9
  go_wp2_with fail
  go_loopw [4, 5] (fun o i wr => ∃ (k : Nat) (ms : List Int), k ≤ s.size ∧ i = .int .i64 k ∧ ms.length ≤ 401 ∧ Hid (nmD s = (nmF (401 - ms.length) (s.data.toList.drop k)).map fun r => ms ++ r) ∧ wr.ownsRow (w.heap.size + 1) 3 1 o ms.length (iLu ms) ∧ Hid (Blk wr w.heap.size #[.slice none 0 0, .int .i64 0] 34 ∧ Below w.heap.size w wr)) (fun _ i _ => s.size - (intOf i).toNat)
  case atStart => exact ⟨0, [], Nat.zero_le _, rfl, Nat.zero_le _, by show _ = _; unfold nmD; simp, World.ownsRow_nil _ _ _ _, HX1.out⟩
  case round =>
    obtain ⟨k, ms, hk, rfl, hm, hR, ho, HXB⟩ := hrel
    have zr := HXB.out.2.size
    have hxl := HXB.out.1.lt
    by_cases hlt : k < s.size
    · have hd : decide ((k : Int) < s.size) = true := by simp only [decide_eq_true_eq]; omega
      have hg := int_ref s k wr hsm (by omega)
      obtain ⟨c, cap, rfl⟩ := own_form ho
      by_cases h38 : ms.length = 401
      · have hN : Hid (nmD s = none) := by
          have := hR.out
          rw [h38, show 401 - 401 = 0 from rfl, nmF_full s k hlt] at this
          exact this
        have HW : Hid (¬ OfD s) := fun ⟨m, h1, _⟩ => by rw [hN.out] at h1; cases h1
        have hd4 : decide ((400 : Int) < (ms.length : Int)) = true := decide_eq_true (by omega)
        have hd4' : (400 : Int) < (ms.length : Int) := by omega
        cases hr : rdInt s k with
        | error er =>
          have her := rdInt_err0 hr
          rw [hr] at hg
          have hde : (er == 0) = false := by simpa using her
          unfold gotG at hg
          clear hR ho h38
          go_wp2_with fail
          refine hg.mono ?_
          rintro e w2 ⟨rfl, rfl⟩
          have X8 := HXB.out.1
          obtain ⟨W9, hW9, X9, _⟩ := setRow_named X8 #[.slice none 0 0, .int .i64 0]
          go_wp2_with ((with_reducible refine st_row (ty := 34) X8 (infoBk2 _ _) (sameBk2 _ _ _ _) (oneBk2 _ _ _ _) hW9 ?_ ?_ ?_); kernel_rfl; kernel_rfl)
          refine bodyPost_ret (v := .tuple #[.agg #[.slice none 0 0, .int .i64 0], .bool false]) (refOf_results X9 rfl rfl) rfl ?_
          exact ⟨below_row HXB.out.2 hW9 (Nat.le_refl _), Or.inl ⟨HW.out, _, _, _, _, rfl⟩⟩
        | ok q =>
          obtain ⟨m, nx⟩ := q
          rw [hr] at hg
          unfold gotG at hg
          clear hR ho h38
          go_wp2_with fail
          refine hg.mono ?_
          rintro e w2 ⟨rfl, rfl⟩
          have X8 := HXB.out.1
          obtain ⟨W9, hW9, X9, _⟩ := setRow_named X8 #[.slice none 0 0, .int .i64 0]
          go_wp2_with ((with_reducible refine st_row (ty := 34) X8 (infoBk2 _ _) (sameBk2 _ _ _ _) (oneBk2 _ _ _ _) hW9 ?_ ?_ ?_); kernel_rfl; kernel_rfl)
          refine bodyPost_ret (v := .tuple #[.agg #[.slice none 0 0, .int .i64 0], .bool false]) (refOf_results X9 rfl rfl) rfl ?_
          exact ⟨below_row HXB.out.2 hW9 (Nat.le_refl _), Or.inl ⟨HW.out, _, _, _, _, rfl⟩⟩
      · have hst := nmF_step s k (400 - ms.length) hlt
        have e37 : 400 - ms.length + 1 = 401 - ms.length := by omega
        rw [e37] at hst
        have hd4 : decide ((400 : Int) < (ms.length : Int)) = false := decide_eq_false (by omega)
        have hd4' : ¬ (400 : Int) < (ms.length : Int) := by omega
        cases hr : rdInt s k with
        | error er =>
          have her := rdInt_err0 hr
          rw [hr] at hg hst
          have hde : (er == 0) = false := by simpa using her
          have hN : Hid (nmD s = none) := by
            have := hR.out
            rw [hst] at this
            exact this
          have HW : Hid (¬ OfD s) := fun ⟨m, h1, _⟩ => by rw [hN.out] at h1; cases h1
          unfold gotG at hg
          clear hR ho hst
          go_wp2_with fail
          refine hg.mono ?_
          rintro e w2 ⟨rfl, rfl⟩
          have X8 := HXB.out.1
          obtain ⟨W9, hW9, X9, _⟩ := setRow_named X8 #[.slice none 0 0, .int .i64 0]
          go_wp2_with ((with_reducible refine st_row (ty := 34) X8 (infoBk2 _ _) (sameBk2 _ _ _ _) (oneBk2 _ _ _ _) hW9 ?_ ?_ ?_); kernel_rfl; kernel_rfl)
          refine bodyPost_ret (v := .tuple #[.agg #[.slice none 0 0, .int .i64 0], .bool false]) (refOf_results X9 rfl rfl) rfl ?_
          exact ⟨below_row HXB.out.2 hW9 (Nat.le_refl _), Or.inl ⟨HW.out, _, _, _, _, rfl⟩⟩
        | ok q =>
          obtain ⟨m, nx⟩ := q
          obtain ⟨q1, q2, q3⟩ := rdInt_le hr
          have hgt : k < nx := rdInt_gt hr
          rw [hr] at hg hst
          have HN : Hid (nmD s = (nmF (401 - (ms ++ [(m : Int)]).length) (s.data.toList.drop nx)).map fun r => (ms ++ [(m : Int)]) ++ r) := by
            show _ = _
            have := hR.out
            rw [hst] at this
            rw [this]
            simp only [Option.map_map, List.length_append, List.length_cons, List.length_nil]
            have e2 : 401 - (ms.length + (0 + 1)) = 400 - ms.length := by omega
            rw [e2]
            congr 1
            funext r
            simp
          have HIL : Hid _ := iLu_snoc ms (m : Int)
          have HO : Hid _ := ho
          unfold gotG at hg
          clear hR ho hst
          go_wp2_with fail
          refine hg.mono ?_
          rintro e w2 ⟨rfl, rfl⟩
          clear hg
          go_wp2_with (at_builtin; refine wpList_append_own _ rfl _ _ 55 rfl (w.heap.size + 1) 3 i0 (.int .i64 0) 1 8 Try.underlying55 hi hz0 hz1 hz2 rfl (by decide) _ _ _ rfl (World.ownsRow.alloc HO.out _) ⟨w2.heap.size, 0, none⟩ 1 1 [.int .i64 m] rfl rfl ?c1 ?c2 ?c3 ?c4 ?c5 ?_)
          case c1 => exact cell_one_new _ _ _
          case c2 => intro u hu; simp at hu; subst hu; rfl
          case c3 => unfold maxLen; omega
          case c4 => omega
          case c5 => simp; omega
          intro v' w4 ho' hg' _
          go_wp2
          refine ⟨⟨nx, ms ++ [(m : Int)], q2, rfl, by simp; omega, HN.out, ?_, ?_, ?_⟩, by simp [intOf]; omega⟩
          · rw [HIL.out, List.length_append]; exact ho'
          · exact (hg'.block w.heap.size (by simp; omega) (fun q => by have := (World.ownsRow.lt HO.out _ q.symm).1; omega)).trans (HXB.out.1.alloc _)
          · exact below_grownU (HXB.out.2.alloc zr _) hg' (fun q hq => by have := (World.ownsRow.lt HO.out q hq).1; omega) (by simp; omega)
    · have hd : decide ((k : Int) < s.size) = false := by simp only [decide_eq_false_iff_not]; omega
      have hN : Hid (nmD s = some ms) := by
        have := hR.out
        rw [nmF_done s k _ hlt] at this
        show _ = _
        rw [this]; simp
      obtain ⟨hlen, hfit⟩ := nmD_fit hN.out
      have HNO : Hid (¬ GoodD ms → ¬ OfD s) := fun hg ⟨m2, h1, h2⟩ => by
        rw [hN.out] at h1
        cases h1
        exact hg h2
      obtain ⟨va, vc, rfl⟩ := own_form ho
      have HO : Hid _ := ho
      clear hR ho
      by_cases h2 : ms.length < 2
      · have d2 : decide ((ms.length : Int) < 2) = true := decide_eq_true (by omega)
        have d2' : (ms.length : Int) < 2 := by omega
        have HW : Hid (¬ OfD s) := HNO.out (fun h => by have := h.1; omega)
        clear hfit
        have X8 := HXB.out.1
        obtain ⟨W9, hW9, X9, _⟩ := setRow_named X8 #[.slice none 0 0, .int .i64 0]
        go_wp2_with ((with_reducible refine st_row (ty := 34) X8 (infoBk2 _ _) (sameBk2 _ _ _ _) (oneBk2 _ _ _ _) hW9 ?_ ?_ ?_); kernel_rfl; kernel_rfl)
        refine bodyPost_ret (v := .tuple #[.agg #[.slice none 0 0, .int .i64 0], .bool false]) (refOf_results X9 rfl rfl) rfl ?_
        exact ⟨below_row HXB.out.2 hW9 (Nat.le_refl _), Or.inl ⟨HW.out, _, _, _, _, rfl⟩⟩
      · have d2 : decide ((ms.length : Int) < 2) = false := decide_eq_false (by omega)
        have d2' : ¬ (ms.length : Int) < 2 := by omega
        obtain ⟨g, rfl, hgc⟩ : ∃ g, va = some ⟨g, 0, none⟩ ∧ ms.length ≤ vc ∧ vc ≤ 9223372036854775807 := by
          rcases (HO.out).2 with ⟨q, q2⟩ | ⟨g, cap, cur, q, _, _, q3, q4, _⟩
          · omega
          · injection q with q1 _ q2
            subst q2
            exact ⟨g, q1, q3, by unfold maxLen at q4; omega⟩
        obtain ⟨hvc, hvm⟩ := hgc
        have HC : Hid (∀ wx : World, wx.ownsRow (w.heap.size + 1) 3 1 (.slice (some ⟨g, 0, none⟩) ms.length vc) ms.length (iLu ms) → ∀ i, i < ms.length → wx.cell? ⟨g, i, none⟩ = some (.int .i64 (nAt ms i))) := fun wx h i hi => ints_at h rfl i hi
        have c0 : wr.cell? ⟨g, 0, none⟩ = some (.int .i64 (nAt ms 0)) := HC.out wr HO.out 0 (by omega)
        have c1 : wr.cell? ⟨g, 1, none⟩ = some (.int .i64 (nAt ms 1)) := HC.out wr HO.out 1 (by omega)
        have f0 := hfit 0
        have f1 := hfit 1
        have hw6 : IntKind.i64.wrap (6 * nAt ms 1) = 6 * nAt ms 1 := by rw [IntKind.wrap_i64]; omega
        have hw2 : IntKind.i64.wrap (2 + 6 * nAt ms 1) = 2 + 6 * nAt ms 1 := by rw [IntKind.wrap_i64]; omega
        have hl1 : (1 : Int) < (ms.length : Int) := by omega
        have hl0 : (0 : Int) < (ms.length : Int) := by omega
        by_cases h64 : 64 < nAt ms 1
        · have d6 : decide (64 < nAt ms 1) = true := decide_eq_true h64
          have HW : Hid (¬ OfD s) := HNO.out (fun h => by have := h.2.1; omega)
          clear hfit
          have X8 := HXB.out.1
          obtain ⟨W9, hW9, X9, _⟩ := setRow_named X8 #[.slice none 0 0, .int .i64 0]
          go_wp2_with ((with_reducible refine st_row (ty := 34) X8 (infoBk2 _ _) (sameBk2 _ _ _ _) (oneBk2 _ _ _ _) hW9 ?_ ?_ ?_); kernel_rfl; kernel_rfl)
          refine bodyPost_ret (v := .tuple #[.agg #[.slice none 0 0, .int .i64 0], .bool false]) (refOf_results X9 rfl rfl) rfl ?_
          exact ⟨below_row HXB.out.2 hW9 (Nat.le_refl _), Or.inl ⟨HW.out, _, _, _, _, rfl⟩⟩
        · have d6 : decide (64 < nAt ms 1) = false := decide_eq_false h64
          by_cases h3 : (ms.length : Int) = 2 + 6 * nAt ms 1
          · have d3n : ((ms.length : Int) != 2 + 6 * nAt ms 1) = false := by simp [h3]
            have H3 : Hid _ := h3
            have hcn : ms.length = 2 + 6 * cntN ms := by unfold cntN; omega
            have hc64 : cntN ms ≤ 64 := by omega
            have HCN : Hid _ := hcn
            obtain ⟨W2, hW2, X2, B2⟩ : ∃ W2, wr.alloc (.cells #[.slice none 0 0, .int .i64 (nAt ms 0)] 34) = W2 ∧ Blk W2 wr.heap.size #[.slice none 0 0, .int .i64 (nAt ms 0)] 34 ∧ Below wr.heap.size wr W2 := ⟨_, rfl, blk_new _ _ _ _ rfl, by go_grown⟩
            have I2 : OfJ w W2 ms (.slice (some ⟨g, 0, none⟩) ms.length vc) wr.heap.size 0 (.slice none 0 0) := ⟨fun i hi => by omega, ownB HO.out B2, HXB.out.1.below B2, X2, World.ownsRow_nil _ _ _ _, HXB.out.2.trans (B2.mono zr)⟩
            have HI2 : Hid _ := I2
            clear I2 h3 hcn hfit f0 f1 X2 B2
            go_wp2_with fail
            have HC64 : Hid (nAt ms 1 ≤ 64) := by show _ ≤ _; omega
            have hzz : w.heap.size < wr.heap.size := hxl
            rename_i QO K4 a4 K3 a3
            have HQO : Hid (∀ a w', bodyPost Try.prog Try.f9 (RefOfP s w) .ret a w' → QO .ret a w') := fun a w' h => h
            clear a4
            clear hW2 c0 c1 HXB HO hw6 hw2 hl1 hl0 d6 h64 hd hlt
            obtain ⟨Q, hQ⟩ : ∃ Q, wr.heap.size = Q := ⟨_, rfl⟩
            rw [hQ] at HI2 zr hxl hzz ⊢
            have HQQ : Hid _ := hQ
            clear hQ
            go_loopw [10, 11] (fun la i wz => ∃ (j t : Nat) (lv : Value), j ≤ cntN ms ∧ i = .int .i64 t ∧ la = .int .i64 (lastP (rdK ms j)) ∧ Hid (t = 2 + 6 * j ∧ OfJ w wz ms (.slice (some ⟨g, 0, none⟩) ms.length vc) Q j lv)) (fun _ i _ => ms.length + 6 - (intOf i).toNat)
            case atStart => exact ⟨0, 2, _, Nat.zero_le _, rfl, rfl, rfl, HI2.out⟩
            case round =>
              obtain ⟨j, t, lv, hj, rfl, rfl, HI⟩ := hrel
              by_cases hjc : j < cntN ms
              · have htl : t + 6 ≤ ms.length := by rw [HI.out.1, HCN.out]; omega
                have d4 : decide ((t : Int) < (ms.length : Int)) = true := decide_eq_true (by omega)
                have d4' : (t : Int) < (ms.length : Int) := by omega
                have I := HI.out.2
                have HT : Hid _ := HI.out.1
                have cc : ∀ i, i < ms.length → wr.cell? ⟨g, i, none⟩ = some (.int .i64 (nAt ms i)) := HC.out wr I.ints
                have hOA : oAt ms j = odI (nAt ms t) (nAt ms (t + 1)) (nAt ms (t + 2)) (nAt ms (t + 3)) (nAt ms (t + 4)) (nAt ms (t + 5)) ∧ nAt ms (4 + 6 * j) = nAt ms (t + 2) := by
                  rw [HT.out]
                  unfold oAt
                  refine ⟨?_, by congr 1; omega⟩
                  rw [show 3 + 6 * j = 2 + 6 * j + 1 by omega, show 4 + 6 * j = 2 + 6 * j + 2 by omega, show 5 + 6 * j = 2 + 6 * j + 3 by omega, show 6 + 6 * j = 2 + 6 * j + 4 by omega, show 7 + 6 * j = 2 + 6 * j + 5 by omega]
                have HOA : Hid _ := hOA
                have e0 : wr.cell? ⟨g, t, none⟩ = some (.int .i64 (nAt ms t)) := cc t (by omega)
                have e1 : wr.cell? ⟨g, t + 1, none⟩ = some (.int .i64 (nAt ms (t + 1))) := cc _ (by omega)
                have e2 : wr.cell? ⟨g, t + 2, none⟩ = some (.int .i64 (nAt ms (t + 2))) := cc _ (by omega)
                have e3 : wr.cell? ⟨g, t + 3, none⟩ = some (.int .i64 (nAt ms (t + 3))) := cc _ (by omega)
                have e4 : wr.cell? ⟨g, t + 4, none⟩ = some (.int .i64 (nAt ms (t + 4))) := cc _ (by omega)
                have e5 : wr.cell? ⟨g, t + 5, none⟩ = some (.int .i64 (nAt ms (t + 5))) := cc _ (by omega)
                have HII : Hid _ := I
                have HBAD : Hid (okD ms j = false → ¬ OfD s) := fun hb => HNO.out (fun hG => by have := hG.2.2.2.1 j hjc; rw [hb] at this; cases this)
                clear cc I HI hOA
                generalize nAt ms t = n0 at *
                generalize nAt ms (t + 1) = n1 at *
                generalize nAt ms (t + 2) = n2 at *
                generalize nAt ms (t + 3) = n3 at *
                generalize nAt ms (t + 4) = n4 at *
                generalize nAt ms (t + 5) = n5 at *
                have ha1 : IntKind.i64.wrap ((t : Int) + 1) = (t : Int) + 1 := by rw [IntKind.wrap_i64]; omega
                have hb1 : ((t : Int) + 1).toNat = t + 1 := by omega
                have hc1 : (t : Int) + 1 < (ms.length : Int) := by omega
                have he1 : (0 : Int) ≤ (t : Int) + 1 := by omega
                have ha2 : IntKind.i64.wrap ((t : Int) + 2) = (t : Int) + 2 := by rw [IntKind.wrap_i64]; omega
                have hb2 : ((t : Int) + 2).toNat = t + 2 := by omega
                have hc2 : (t : Int) + 2 < (ms.length : Int) := by omega
                have he2 : (0 : Int) ≤ (t : Int) + 2 := by omega
                have ha3 : IntKind.i64.wrap ((t : Int) + 3) = (t : Int) + 3 := by rw [IntKind.wrap_i64]; omega
                have hb3 : ((t : Int) + 3).toNat = t + 3 := by omega
                have hc3 : (t : Int) + 3 < (ms.length : Int) := by omega
                have he3 : (0 : Int) ≤ (t : Int) + 3 := by omega
                have ha4 : IntKind.i64.wrap ((t : Int) + 4) = (t : Int) + 4 := by rw [IntKind.wrap_i64]; omega
                have hb4 : ((t : Int) + 4).toNat = t + 4 := by omega
                have hc4 : (t : Int) + 4 < (ms.length : Int) := by omega
                have he4 : (0 : Int) ≤ (t : Int) + 4 := by omega
                have ha5 : IntKind.i64.wrap ((t : Int) + 5) = (t : Int) + 5 := by rw [IntKind.wrap_i64]; omega
                have hb5 : ((t : Int) + 5).toNat = t + 5 := by omega
                have hc5 : (t : Int) + 5 < (ms.length : Int) := by omega
                have he5 : (0 : Int) ≤ (t : Int) + 5 := by omega
                obtain ⟨W3, hW3, X3, B3⟩ : ∃ W3, wr.drew.alloc (.cells #[.int .i64 0, .int .i64 0, .int .i64 0, .int .i64 0, .int .i64 0, .bool false] 28) = W3 ∧ Blk W3 wr.heap.size #[.int .i64 0, .int .i64 0, .int .i64 0, .int .i64 0, .int .i64 0, .bool false] 28 ∧ Below wr.heap.size wr W3 := ⟨_, rfl, blk_new _ _ _ _ rfl, ((Below.refl _ _).drew).alloc (Nat.le_refl _) _⟩
                obtain ⟨W4, hW4, X4, _⟩ := setRow_named X3 #[.int .i64 n0, .int .i64 n1, .int .i64 n3, .int .i64 n4, .int .i64 n5, .bool (n2 == 0)]
                have B4 : Below wr.heap.size wr W4 := below_row B3 hW4 (Nat.le_refl _)
                have m0 : W3.cell? ⟨g, t, none⟩ = some (.int .i64 n0) := keepY B3 e0
                have k0 : W4.cell? ⟨g, t, none⟩ = some (.int .i64 n0) := keepY B4 e0
                have m1 : W3.cell? ⟨g, t + 1, none⟩ = some (.int .i64 n1) := keepY B3 e1
                have k1 : W4.cell? ⟨g, t + 1, none⟩ = some (.int .i64 n1) := keepY B4 e1
                have m2 : W3.cell? ⟨g, t + 2, none⟩ = some (.int .i64 n2) := keepY B3 e2
                have k2 : W4.cell? ⟨g, t + 2, none⟩ = some (.int .i64 n2) := keepY B4 e2
                have m3 : W3.cell? ⟨g, t + 3, none⟩ = some (.int .i64 n3) := keepY B3 e3
                have k3 : W4.cell? ⟨g, t + 3, none⟩ = some (.int .i64 n3) := keepY B4 e3
                have m4 : W3.cell? ⟨g, t + 4, none⟩ = some (.int .i64 n4) := keepY B3 e4
                have k4 : W4.cell? ⟨g, t + 4, none⟩ = some (.int .i64 n4) := keepY B4 e4
                have m5 : W3.cell? ⟨g, t + 5, none⟩ = some (.int .i64 n5) := keepY B3 e5
                have k5 : W4.cell? ⟨g, t + 5, none⟩ = some (.int .i64 n5) := keepY B4 e5
                go_upto_region 16 with fail
                rename_i QI KI aI KJ aJ
                have HQI : Hid (∀ a w', bodyPost Try.prog Try.f9 (RefOfP s w) .ret a w' → QI .ret a w') := fun a w' h => h
                go_cut [12] (fun pv wx => pv = .pointer (some ⟨wr.heap.size, 0, none⟩) ∧ wx = W4)
                case first =>
                  refine wp_region_held_drew (S := (fun wx => wx.cell? ⟨g, t, none⟩ = some (.int .i64 n0) ∧ wx.cell? ⟨g, t + 1, none⟩ = some (.int .i64 n1) ∧ wx.cell? ⟨g, t + 2, none⟩ = some (.int .i64 n2) ∧ wx.cell? ⟨g, t + 3, none⟩ = some (.int .i64 n3) ∧ wx.cell? ⟨g, t + 4, none⟩ = some (.int .i64 n4) ∧ wx.cell? ⟨g, t + 5, none⟩ = some (.int .i64 n5))) (by kernel_rfl) ⟨e0, e1, e2, e3, e4, e5⟩ (fun hS => ?_)
                  refine wpAnyH_take (i := 0) (v := (.slice (some ⟨g, 0, none⟩) ms.length vc)) rfl (by kernel_rfl) (by kernel_rfl) (by kernel_rfl) (fun _ _ _ h => h) (Or.inl ⟨by rfl, fun w hS => by obtain ⟨s0, s1, s2, s3, s4, s5⟩ := hS; go_simp⟩) hS ?_
                  refine wpAnyH_take (i := 1) (v := (.int .i64 t)) rfl (by kernel_rfl) (by kernel_rfl) (by kernel_rfl) (fun _ _ _ h => h) (Or.inl ⟨by rfl, fun w hS => by obtain ⟨s0, s1, s2, s3, s4, s5⟩ := hS; go_simp⟩) hS ?_
                  refine wpAnyH_take (i := 2) (v := (.pointer (some ⟨g, t, none⟩))) rfl (by kernel_rfl) (by kernel_rfl) (by kernel_rfl) (fun _ _ _ h => h) (Or.inl ⟨by rfl, fun w hS => by obtain ⟨s0, s1, s2, s3, s4, s5⟩ := hS; go_simp⟩) hS ?_
                  refine wpAnyH_take (i := 3) (v := (.int .i64 n0)) rfl (by kernel_rfl) (by kernel_rfl) (by kernel_rfl) (fun _ _ _ h => h) (Or.inl ⟨by rfl, fun w hS => by obtain ⟨s0, s1, s2, s3, s4, s5⟩ := hS; go_simp⟩) hS ?_
                  refine wpAnyH_take (i := 4) (v := (.slice (some ⟨g, 0, none⟩) ms.length vc)) rfl (by kernel_rfl) (by kernel_rfl) (by kernel_rfl) (fun _ _ _ h => h) (Or.inl ⟨by rfl, fun w hS => by obtain ⟨s0, s1, s2, s3, s4, s5⟩ := hS; go_simp⟩) hS ?_
                  refine wpAnyH_take (i := 5) (v := (.int .i64 t)) rfl (by kernel_rfl) (by kernel_rfl) (by kernel_rfl) (fun _ _ _ h => h) (Or.inl ⟨by rfl, fun w hS => by obtain ⟨s0, s1, s2, s3, s4, s5⟩ := hS; go_simp⟩) hS ?_
                  refine wpAnyH_take (i := 6) (v := (.int .i64 ((t : Int) + 1))) rfl (by kernel_rfl) (by kernel_rfl) (by kernel_rfl) (fun _ _ _ h => h) (Or.inl ⟨by rfl, fun w hS => by obtain ⟨s0, s1, s2, s3, s4, s5⟩ := hS; go_simp⟩) hS ?_
                  refine wpAnyH_take (i := 7) (v := (.pointer (some ⟨g, t + 1, none⟩))) rfl (by kernel_rfl) (by kernel_rfl) (by kernel_rfl) (fun _ _ _ h => h) (Or.inl ⟨by rfl, fun w hS => by obtain ⟨s0, s1, s2, s3, s4, s5⟩ := hS; go_simp⟩) hS ?_
                  refine wpAnyH_take (i := 8) (v := (.int .i64 n1)) rfl (by kernel_rfl) (by kernel_rfl) (by kernel_rfl) (fun _ _ _ h => h) (Or.inl ⟨by rfl, fun w hS => by obtain ⟨s0, s1, s2, s3, s4, s5⟩ := hS; go_simp⟩) hS ?_
                  refine wpAnyH_take (i := 9) (v := (.slice (some ⟨g, 0, none⟩) ms.length vc)) rfl (by kernel_rfl) (by kernel_rfl) (by kernel_rfl) (fun _ _ _ h => h) (Or.inl ⟨by rfl, fun w hS => by obtain ⟨s0, s1, s2, s3, s4, s5⟩ := hS; go_simp⟩) hS ?_
                  refine wpAnyH_take (i := 10) (v := (.int .i64 t)) rfl (by kernel_rfl) (by kernel_rfl) (by kernel_rfl) (fun _ _ _ h => h) (Or.inl ⟨by rfl, fun w hS => by obtain ⟨s0, s1, s2, s3, s4, s5⟩ := hS; go_simp⟩) hS ?_
                  refine wpAnyH_take (i := 11) (v := (.int .i64 ((t : Int) + 2))) rfl (by kernel_rfl) (by kernel_rfl) (by kernel_rfl) (fun _ _ _ h => h) (Or.inl ⟨by rfl, fun w hS => by obtain ⟨s0, s1, s2, s3, s4, s5⟩ := hS; go_simp⟩) hS ?_
                  refine wpAnyH_take (i := 12) (v := (.pointer (some ⟨g, t + 2, none⟩))) rfl (by kernel_rfl) (by kernel_rfl) (by kernel_rfl) (fun _ _ _ h => h) (Or.inl ⟨by rfl, fun w hS => by obtain ⟨s0, s1, s2, s3, s4, s5⟩ := hS; go_simp⟩) hS ?_
                  refine wpAnyH_take (i := 13) (v := (.int .i64 n2)) rfl (by kernel_rfl) (by kernel_rfl) (by kernel_rfl) (fun _ _ _ h => h) (Or.inl ⟨by rfl, fun w hS => by obtain ⟨s0, s1, s2, s3, s4, s5⟩ := hS; go_simp⟩) hS ?_
                  refine wpAnyH_take (i := 14) (v := (.bool (n2 == 0))) rfl (by kernel_rfl) (by kernel_rfl) (by kernel_rfl) (fun _ _ _ h => h) (Or.inl ⟨by rfl, fun w hS => by obtain ⟨s0, s1, s2, s3, s4, s5⟩ := hS; go_simp⟩) hS ?_
                  refine wpAnyH_take (i := 15) (v := (.slice (some ⟨g, 0, none⟩) ms.length vc)) rfl (by kernel_rfl) (by kernel_rfl) (by kernel_rfl) (fun _ _ _ h => h) (Or.inl ⟨by rfl, fun w hS => by obtain ⟨s0, s1, s2, s3, s4, s5⟩ := hS; go_simp⟩) hS ?_
                  refine wpAnyH_take (i := 16) (v := (.int .i64 t)) rfl (by kernel_rfl) (by kernel_rfl) (by kernel_rfl) (fun _ _ _ h => h) (Or.inl ⟨by rfl, fun w hS => by obtain ⟨s0, s1, s2, s3, s4, s5⟩ := hS; go_simp⟩) hS ?_
                  refine wpAnyH_take (i := 17) (v := (.int .i64 ((t : Int) + 3))) rfl (by kernel_rfl) (by kernel_rfl) (by kernel_rfl) (fun _ _ _ h => h) (Or.inl ⟨by rfl, fun w hS => by obtain ⟨s0, s1, s2, s3, s4, s5⟩ := hS; go_simp⟩) hS ?_
                  refine wpAnyH_take (i := 18) (v := (.pointer (some ⟨g, t + 3, none⟩))) rfl (by kernel_rfl) (by kernel_rfl) (by kernel_rfl) (fun _ _ _ h => h) (Or.inl ⟨by rfl, fun w hS => by obtain ⟨s0, s1, s2, s3, s4, s5⟩ := hS; go_simp⟩) hS ?_
                  refine wpAnyH_take (i := 19) (v := (.int .i64 n3)) rfl (by kernel_rfl) (by kernel_rfl) (by kernel_rfl) (fun _ _ _ h => h) (Or.inl ⟨by rfl, fun w hS => by obtain ⟨s0, s1, s2, s3, s4, s5⟩ := hS; go_simp⟩) hS ?_
                  refine wpAnyH_take (i := 20) (v := (.slice (some ⟨g, 0, none⟩) ms.length vc)) rfl (by kernel_rfl) (by kernel_rfl) (by kernel_rfl) (fun _ _ _ h => h) (Or.inl ⟨by rfl, fun w hS => by obtain ⟨s0, s1, s2, s3, s4, s5⟩ := hS; go_simp⟩) hS ?_
                  refine wpAnyH_take (i := 21) (v := (.int .i64 t)) rfl (by kernel_rfl) (by kernel_rfl) (by kernel_rfl) (fun _ _ _ h => h) (Or.inl ⟨by rfl, fun w hS => by obtain ⟨s0, s1, s2, s3, s4, s5⟩ := hS; go_simp⟩) hS ?_
                  refine wpAnyH_take (i := 22) (v := (.int .i64 ((t : Int) + 4))) rfl (by kernel_rfl) (by kernel_rfl) (by kernel_rfl) (fun _ _ _ h => h) (Or.inl ⟨by rfl, fun w hS => by obtain ⟨s0, s1, s2, s3, s4, s5⟩ := hS; go_simp⟩) hS ?_
                  refine wpAnyH_take (i := 23) (v := (.pointer (some ⟨g, t + 4, none⟩))) rfl (by kernel_rfl) (by kernel_rfl) (by kernel_rfl) (fun _ _ _ h => h) (Or.inl ⟨by rfl, fun w hS => by obtain ⟨s0, s1, s2, s3, s4, s5⟩ := hS; go_simp⟩) hS ?_
                  refine wpAnyH_take (i := 24) (v := (.int .i64 n4)) rfl (by kernel_rfl) (by kernel_rfl) (by kernel_rfl) (fun _ _ _ h => h) (Or.inl ⟨by rfl, fun w hS => by obtain ⟨s0, s1, s2, s3, s4, s5⟩ := hS; go_simp⟩) hS ?_
                  refine wpAnyH_take (i := 25) (v := (.slice (some ⟨g, 0, none⟩) ms.length vc)) rfl (by kernel_rfl) (by kernel_rfl) (by kernel_rfl) (fun _ _ _ h => h) (Or.inl ⟨by rfl, fun w hS => by obtain ⟨s0, s1, s2, s3, s4, s5⟩ := hS; go_simp⟩) hS ?_
                  refine wpAnyH_take (i := 26) (v := (.int .i64 t)) rfl (by kernel_rfl) (by kernel_rfl) (by kernel_rfl) (fun _ _ _ h => h) (Or.inl ⟨by rfl, fun w hS => by obtain ⟨s0, s1, s2, s3, s4, s5⟩ := hS; go_simp⟩) hS ?_
                  refine wpAnyH_take (i := 27) (v := (.int .i64 ((t : Int) + 5))) rfl (by kernel_rfl) (by kernel_rfl) (by kernel_rfl) (fun _ _ _ h => h) (Or.inl ⟨by rfl, fun w hS => by obtain ⟨s0, s1, s2, s3, s4, s5⟩ := hS; go_simp⟩) hS ?_
                  refine wpAnyH_take (i := 28) (v := (.pointer (some ⟨g, t + 5, none⟩))) rfl (by kernel_rfl) (by kernel_rfl) (by kernel_rfl) (fun _ _ _ h => h) (Or.inl ⟨by rfl, fun w hS => by obtain ⟨s0, s1, s2, s3, s4, s5⟩ := hS; go_simp⟩) hS ?_
                  refine wpAnyH_take (i := 29) (v := (.int .i64 n5)) rfl (by kernel_rfl) (by kernel_rfl) (by kernel_rfl) (fun _ _ _ h => h) (Or.inl ⟨by rfl, fun w hS => by obtain ⟨s0, s1, s2, s3, s4, s5⟩ := hS; go_simp⟩) hS ?_
                  refine wpAnyH_take (i := 30) (v := (.agg #[.int .i64 n0, .int .i64 n1, .int .i64 n3, .int .i64 n4, .int .i64 n5, .bool (n2 == 0)])) rfl (by kernel_rfl) (by kernel_rfl) (by kernel_rfl) (fun _ _ _ h => h) (Or.inl ⟨by rfl, fun w hS => by obtain ⟨s0, s1, s2, s3, s4, s5⟩ := hS; go_simp⟩) hS ?_
                  refine wpAnyH_ready (rs := [31]) (by kernel_rfl) (by simp) ?_
                  refine AllReadyH.cons rfl (fun K hK => ?_) AllReadyH.nil
                  go_simp
                  refine hK.out _ _ ⟨m0, m1, m2, m3, m4, m5⟩ (fun hS => ?_)
                  clear hK
                  refine wpAnyH_ready (rs := [32]) (by kernel_rfl) (by simp) ?_
                  refine readyH_rowC 32 rfl (ty := 28) (x := .tmp 12) (y := .tmp 97) rfl rfl rfl wr.heap.size #[.int .i64 n0, .int .i64 n1, .int .i64 n3, .int .i64 n4, .int .i64 n5, .bool (n2 == 0)] (by kernel_rfl) (by kernel_rfl) 28 #[.int .i64 0, .int .i64 0, .int .i64 0, .int .i64 0, .int .i64 0, .bool false] X3 infoO6b rfl (oneO6 _ _ _ _ _ _) (by rw [hW4]; exact ⟨k0, k1, k2, k3, k4, k5⟩) (fun hS => ?_)
                  refine wpAnyH_done (by kernel_rfl) ?_ _
                  rw [hW4]
                  go_wp2_with fail
                  go_meet
                  exact ⟨rfl, rfl⟩
                case rest =>
                  obtain ⟨rfl, h4⟩ := hcut
                  obtain rfl := h4.symm
                  clear ha1 hb1 hc1 he1 ha3 hb3 hc3 he3 ha4 hb4 hc4 he4 ha5 hb5 hc5 he5
                  clear k0 k1 k3 k4 k5 m0 m1 m2 m3 m4 m5 e0 e1 e2 e3 e4 e5
                  have HI4 : Hid _ := OfJ.below HII.out B4
                  have x0 : W4.cell? ⟨wr.heap.size, 0, none⟩ = some (.int .i64 n0) := X4.cell rfl
                  have x1 : W4.cell? ⟨wr.heap.size, 1, none⟩ = some (.int .i64 n1) := X4.cell rfl
                  have x2 : W4.cell? ⟨wr.heap.size, 2, none⟩ = some (.int .i64 n3) := X4.cell rfl
                  have x3 : W4.cell? ⟨wr.heap.size, 3, none⟩ = some (.int .i64 n4) := X4.cell rfl
                  have x4 : W4.cell? ⟨wr.heap.size, 4, none⟩ = some (.int .i64 n5) := X4.cell rfl
                  have x5 : W4.cell? ⟨wr.heap.size, 5, none⟩ = some (.bool (n2 == 0)) := X4.cell rfl
                  have HX4 : Hid _ := X4
                  have HRT : Hid _ := right_calls (odI n0 n1 n2 n3 n4 n5) W4
                  have HOKE : Hid (okD ms j = (mayB (odI n0 n1 n2 n3 n4 n5) && decide (n2 ≤ 1) && decide (lastP (rdK ms j) < n5) && decide (fnd (rdK ms j) n0 < 0))) := by
                    show _ = _
                    unfold okD
                    rw [HOA.out.1, HOA.out.2]
                    rfl
                  have HLN : Hid (lastP (rdK ms (j + 1)) = n5) := by
                    show _ = _
                    rw [lastP_succ, HOA.out.1]; rfl
                  obtain ⟨lp, HLP⟩ : ∃ lp, Hid (lastP (rdK ms j) = lp) := ⟨_, rfl⟩
                  rw [HLP.out] at HOKE ⊢
                  obtain ⟨okv, HOV⟩ : ∃ okv, Hid (okD ms j = okv) := ⟨_, rfl⟩
                  rw [HOV.out] at HOKE HBAD
                  clear hW3 X3 B3 X4 hW4 HII B4 h4
                  obtain ⟨P4, HP4⟩ : ∃ P4, Hid (wr.heap.size = P4) := ⟨_, rfl⟩
                  rw [HP4.out] at HX4 x0 x1 x2 x3 x4 x5 ⊢
                  go_upto_region 17 with fail
                  go_cut [121] (fun bv wx => bv = .bool (!okv) ∧ Below W4.heap.size W4 wx)
                  case first =>
                    cases hm : mayB (odI n0 n1 n2 n3 n4 n5)
                    · have HOK : Hid (okv = false) := by show _ = _; rw [HOKE.out, hm]; rfl
                      rw [hm] at HRT
                      clear hm
                      go_wp2_with fail
                      refine Calls.mono HRT.out ?_
                      rintro e w5 ⟨rfl, g5⟩
                      go_wp2_with fail
                      go_meet
                      exact ⟨by rw [HOK.out]; rfl, g5.below⟩
                    · rw [hm] at HRT
                      by_cases h1 : 1 < n2
                      · have d1 : decide (1 < n2) = true := decide_eq_true h1
                        have HOK : Hid (okv = false) := by show _ = _; rw [HOKE.out, decide_eq_false (show ¬ n2 ≤ 1 by omega), hm]; rfl
                        clear hm
                        go_wp2_with fail
                        refine Calls.mono HRT.out ?_
                        rintro e w5 ⟨rfl, g5⟩
                        have k2' := keepY g5.below k2
                        clear k2
                        go_wp2_with fail
                        go_meet
                        exact ⟨by rw [HOK.out]; rfl, g5.below⟩
                      · have d1 : decide (1 < n2) = false := decide_eq_false h1
                        by_cases h5 : n5 ≤ lp
                        · have d5 : decide (n5 ≤ lp) = true := decide_eq_true h5
                          have HOK : Hid (okv = false) := by show _ = _; rw [HOKE.out, decide_eq_false (show ¬ lp < n5 by omega), hm]; simp
                          clear hm
                          go_wp2_with fail
                          refine Calls.mono HRT.out ?_
                          rintro e w5 ⟨rfl, g5⟩
                          have k2' := keepY g5.below k2
                          have x4' := keepY g5.below x4
                          clear k2 x4
                          go_wp2_with fail
                          go_meet
                          exact ⟨by rw [HOK.out]; rfl, g5.below⟩
                        · have d5 : decide (n5 ≤ lp) = false := decide_eq_false h5
                          have HOK1 : Hid (okv = decide (fnd (rdK ms j) n0 < 0)) := by show _ = _; rw [HOKE.out, decide_eq_true (show lp < n5 by omega), decide_eq_true (show n2 ≤ 1 by omega), hm]; simp
                          have hrl : (rdK ms j).length ≤ 64 := by rw [rdK_len]; omega
                          clear hm
                          go_wp2_with fail
                          refine Calls.mono HRT.out ?_
                          rintro e w5 ⟨rfl, g5⟩
                          have k2' := keepY g5.below k2
                          have z0 : w5.cell? ⟨P4, 0, none⟩ = some (.int .i64 n0) := keepY g5.below x0
                          have z4 : w5.cell? ⟨P4, 4, none⟩ = some (.int .i64 n5) := keepY g5.below x4
                          have I5 := OfJ.below HI4.out g5.below
                          have q0 : w5.cell? ⟨Q, 0, none⟩ = some lv := I5.blk.cell rfl
                          have q1 : w5.cell? ⟨Q, 1, none⟩ = some (.int .i64 (nAt ms 0)) := I5.blk.cell rfl
                          have HAT : Hid _ := refAtC_calls lv (rdK ms j) (nAt ms 0) n0 w5 (ods_own I5.row) (by omega)
                          obtain ⟨la, lc, rfl⟩ := own_form I5.row
                          have HG5 : Hid _ := g5.below
                          clear I5 x0 x1 x2 x3 x4 x5 k2 HRT g5
                          go_wp2_with fail
                          refine Calls.mono HAT.out ?_
                          rintro e w6 ⟨qq, rfl, hq, b6⟩
                          have B6 := Below.trans HG5.out (b6.mono (Below.size HG5.out))
                          have HB6 : Hid _ := B6
                          have HQQ : Hid (okv = !decide (0 ≤ qq)) := by
                            show _ = _
                            rw [HOK1.out]
                            by_cases hqq : 0 ≤ qq
                            · rw [decide_eq_true hqq]
                              obtain ⟨o, ho, he⟩ := hq.1 hqq
                              exact decide_eq_false (fun h => fnd_none h o ho he)
                            · rw [decide_eq_false hqq]
                              refine decide_eq_true ?_
                              rcases fnd_cases (rdK ms j) n0 with ⟨h, _⟩ | ⟨i, o, _, h3, h4, _⟩
                              · rw [h]; decide
                              · exact absurd (hq.2 ⟨o, List.mem_of_getElem? h3, h4⟩) hqq
                          clear hq B6
                          by_cases hqq : 0 ≤ qq
                          · have dq : decide (0 ≤ qq) = true := decide_eq_true hqq
                            rw [dq] at HQQ
                            clear hqq
                            go_wp2_with fail
                            go_meet
                            exact ⟨by rw [HQQ.out]; rfl, HB6.out⟩
                          · have dq : decide (0 ≤ qq) = false := decide_eq_false hqq
                            rw [dq] at HQQ
                            clear hqq
                            go_wp2_with fail
                            go_meet
                            exact ⟨by rw [HQQ.out]; rfl, HB6.out⟩
                  case rest =>
                    obtain ⟨rfl, h5⟩ := hcut
                    have HIc : Hid _ := OfJ.below HI4.out h5
                    have HXc : Hid _ := Blk.below HX4.out h5
                    clear h5 x0 x1 x2 x3 x4 x5 k2 HRT HI4 HX4
                    cases okv
                    · have HW : Hid (¬ OfD s) := HBAD.out rfl
                      rename_i K1 a1 K0 a0
                      clear a1 aI a3 HLN HOA HT HNO HC
                      clear_value QI
                      have X8 := OfJ.res HIc.out
                      obtain ⟨W9, hW9, X9, _⟩ := setRow_named X8 #[.slice none 0 0, .int .i64 0]
                      go_wp2_with ((with_reducible refine st_row (ty := 34) X8 (infoBk2 _ _) (sameBk2 _ _ _ _) (oneBk2 _ _ _ _) hW9 ?_ ?_ ?_); kernel_rfl; kernel_rfl)
                      refine HQI.out _ _ ?_
                      refine bodyPost_ret (v := .tuple #[.agg #[.slice none 0 0, .int .i64 0], .bool false]) (refOf_results X9 rfl rfl) rfl ?_
                      exact ⟨below_row (OfJ.lo HIc.out) hW9 (Nat.le_refl _), Or.inl ⟨HW.out, _, _, _, _, rfl⟩⟩
                    · have hrl : (rdK ms j).length ≤ 64 := by rw [rdK_len]; omega
                      clear a3
                      obtain ⟨la, lc, rfl⟩ := own_form (OfJ.row HIc.out)
                      have z0 : wc.cell? ⟨P4, 0, none⟩ = some (.int .i64 n0) := Blk.cell HXc.out rfl
                      have z1 : wc.cell? ⟨P4, 1, none⟩ = some (.int .i64 n1) := Blk.cell HXc.out rfl
                      have z2 : wc.cell? ⟨P4, 2, none⟩ = some (.int .i64 n3) := Blk.cell HXc.out rfl
                      have z3 : wc.cell? ⟨P4, 3, none⟩ = some (.int .i64 n4) := Blk.cell HXc.out rfl
                      have z4 : wc.cell? ⟨P4, 4, none⟩ = some (.int .i64 n5) := Blk.cell HXc.out rfl
                      have z5 : wc.cell? ⟨P4, 5, none⟩ = some (.bool (n2 == 0)) := Blk.cell HXc.out rfl
                      have q0 : wc.cell? ⟨Q, 0, none⟩ = some (.slice la (rdK ms j).length lc) := Blk.cell (OfJ.blk HIc.out) rfl
                      have hw7 : IntKind.i64.wrap ((t : Int) + 6) = (t : Int) + 6 := by rw [IntKind.wrap_i64]; omega
                      obtain ⟨W6, hW6, B6⟩ : ∃ W6, wc.alloc (.cells #[.int .i64 n0, .int .i64 n1, .int .i64 n3, .int .i64 n4, .int .i64 n5, .bool (n2 == 0)] 28) = W6 ∧ Below wc.heap.size wc W6 := ⟨_, rfl, by go_grown⟩
                      have HN6 : Hid (∀ jj u, (oC (odI n0 n1 n2 n3 n4 n5))[jj]? = some u → W6.cell? ((⟨wc.heap.size, 0, none⟩ : Addr).add jj) = some u) := by
                        rw [← hW6]; exact six_new wc (odI n0 n1 n2 n3 n4 n5) _
                      have HI6 : Hid _ := OfJ.below HIc.out B6
                      have hb6 : Q + 1 ≤ W6.heap.size := (OfJ.blk HI6.out).lt
                      have HOA1 : Hid _ := HOA.out.1
                      clear B6 HOA
                      go_wp2_with (at_builtin; refine wpList_append_own _ rfl _ _ 25 rfl (Q + 1) 28 i6 (.agg #[.int .i64 0, .int .i64 0, .int .i64 0, .int .i64 0, .int .i64 0, .bool false]) 6 48 Try.underlying25 hi6 hy0 hy1 hy2 rfl (by decide) _ _ _ rfl (OfJ.row HI6.out) ⟨wc.heap.size, 0, none⟩ 1 1 (oC (odI n0 n1 n2 n3 n4 n5)) rfl rfl ?d1 ?d2 ?d3 ?d4 ?d5 ?_)
                      case d1 => exact HN6.out
                      case d2 => exact oC_oneO _
                      case d3 => unfold maxLen; omega
                      case d4 => omega
                      case d5 => exact hb6
                      intro v' w7 own' gr' _
                      obtain ⟨oa', oc', rfl⟩ := own_form own'
                      have X7 : Blk w7 Q #[.slice la (rdK ms j).length lc, .int .i64 (nAt ms 0)] 34 := (gr'.block Q (OfJ.blk HI6.out).lt (fun q => by have := ((OfJ.row HI6.out).lt _ q.symm).1; omega)).trans (OfJ.blk HI6.out)
                      have f7 : w7.frozen? ⟨Q, 0, none⟩ = false := X7.frozen
                      have c7 : w7.cell? ⟨Q, 0, none⟩ = some (.slice la (rdK ms j).length lc) := X7.cell rfl
                      have in7 := World.ownsRow.kept (OfJ.ints HI6.out) gr' (neq_of_types (OfJ.ints HI6.out) (OfJ.row HI6.out) (by decide))
                      have lo7 : Below w.heap.size w w7 := below_grownU (OfJ.lo HI6.out) gr' (fun q hq => by have := ((OfJ.row HI6.out).lt q hq).1; omega) (OfJ.lo HI6.out).size
                      have r7 : Blk w7 w.heap.size #[.slice none 0 0, .int .i64 0] 34 := (gr'.block w.heap.size (OfJ.res HI6.out).lt (fun q => by have := ((OfJ.row HI6.out).lt _ q.symm).1; omega)).trans (OfJ.res HI6.out)
                      have HN8 : Hid (OfJ w (w7.setCell ⟨Q, 0, none⟩ (.slice oa' ((rdK ms j).length + 1) oc')) ms (.slice (some ⟨g, 0, none⟩) ms.length vc) Q (j + 1) (.slice oa' ((rdK ms j).length + 1) oc')) := by
                        have gs : w7.grownBy (w7.setCell ⟨Q, 0, none⟩ (.slice oa' ((rdK ms j).length + 1) oc')) (some Q) := offBy (Off.setCell (Off.refl Q w7) (p := ⟨Q, 0, none⟩) rfl _)
                        refine ⟨fun i hi => ?_, World.ownsRow.kept in7 gs ?_, (gs.block w.heap.size r7.lt (fun q => by have := Option.some.inj q; omega)).trans r7, X7.set 0 _, ?_, below_grownU lo7 gs (fun q hq => by have := Option.some.inj hq; omega) lo7.size⟩
                        · rcases Nat.lt_or_ge i j with h | h
                          · exact OfJ.ok HI6.out i h
                          · have : i = j := by omega
                            rw [this]; exact HOV.out
                        · refine Or.inr (fun q => ?_)
                          rcases in7.2 with ⟨q1, _⟩ | ⟨g', c', cur', q1, _, hB', _⟩
                          · cases q1
                          · injection q1 with q1 _ _
                            injection q1 with q1
                            injection q1 with q1
                            have hq : g = Q := Option.some.inj q
                            have := X7
                            unfold Blk at this
                            rw [← hq, q1, hB'] at this
                            injection this with this
                            injection this with _ this
                            exact absurd this (by decide)
                        · rw [rdK_succ, HOA1.out, odL_snocO, List.length_append]
                          refine World.ownsRow.kept own' gs (Or.inr (fun q => ?_))
                          have := (own'.lt _ q).1
                          omega
                      clear own' gr' X7 in7 lo7 r7
                      go_wp2
                      refine ⟨⟨j + 1, t + 6, _, by omega, by norm_cast, by rw [HLN.out], ?_, HN8.out⟩, ?_⟩
                      · have := HT.out; omega
                      · simp [intOf]; omega
              · have hje : j = cntN ms := by omega
                have HJ : Hid _ := hje
                have d4 : decide ((t : Int) < (ms.length : Int)) = false := decide_eq_false (by have := HI.out.1; have := HCN.out; omega)
                have d4' : ¬ (t : Int) < (ms.length : Int) := of_decide_eq_false d4
                have HI3 : Hid _ := HI.out.2
                have q0 : wr.cell? ⟨Q, 0, none⟩ = some lv := (OfJ.blk HI3.out).cell rfl
                have q1 : wr.cell? ⟨Q, 1, none⟩ = some (.int .i64 (nAt ms 0)) := (OfJ.blk HI3.out).cell rfl
                have HGD : Hid (decide (lastP (rdK ms j) < nAt ms 0) = true → GoodD ms) := fun h => by
                  have hh := of_decide_eq_true h
                  rw [HJ.out] at hh
                  exact ⟨by omega, HC64.out, H3.out, fun i hi => (OfJ.ok HI3.out) i (by rw [HJ.out]; exact hi), hh⟩
                have HBD : Hid (decide (lastP (rdK ms j) < nAt ms 0) = false → ¬ GoodD ms) := fun h hG => by
                  have hh := of_decide_eq_false h
                  rw [HJ.out] at hh
                  exact hh hG.2.2.2.2
                obtain ⟨xb, HXB2⟩ : ∃ xb, Hid (decide (lastP (rdK ms j) < nAt ms 0) = xb) := ⟨_, rfl⟩
                rw [HXB2.out] at HGD HBD
                obtain ⟨W9, hW9, X9, _⟩ := setRow_named (Blk.drew (OfJ.res HI3.out)) #[lv, .int .i64 (nAt ms 0)]
                have q0' : W9.cell? ⟨Q, 0, none⟩ = some lv := rowK hW9 q0 (by show Q ≠ w.heap.size; omega)
                have q1' : W9.cell? ⟨Q, 1, none⟩ = some (.int .i64 (nAt ms 0)) := rowK hW9 q1 (by show Q ≠ w.heap.size; omega)
                clear HI hje
                generalize hnx : nAt ms 0 = nx at *
                have HNX : Hid _ := hnx
                clear hnx
                have hxb := HXB2.out
                generalize lastP (rdK ms j) = lp at *
                go_wp2_with fail
                refine wp_region_held_drew (S := (fun wx => wx.cell? ⟨Q, 0, none⟩ = some lv ∧ wx.cell? ⟨Q, 1, none⟩ = some (.int .i64 nx))) (by kernel_rfl) ⟨q0, q1⟩ (fun hS => ?_)
                refine wpAnyH_take (i := 0) (v := (.agg #[lv, .int .i64 nx])) rfl (by kernel_rfl) (by kernel_rfl) (by kernel_rfl) (fun _ _ _ h => h) (Or.inl ⟨by rfl, fun w hS => by obtain ⟨s0, s1⟩ := hS; go_simp⟩) hS ?_
                refine wpAnyH_take (i := 1) (v := (.pointer (some ⟨Q, 1, none⟩))) rfl (by kernel_rfl) (by kernel_rfl) (by kernel_rfl) (fun _ _ _ h => h) (Or.inl ⟨by rfl, fun w hS => by obtain ⟨s0, s1⟩ := hS; go_simp⟩) hS ?_
                refine wpAnyH_take (i := 2) (v := (.int .i64 nx)) rfl (by kernel_rfl) (by kernel_rfl) (by kernel_rfl) (fun _ _ _ h => h) (Or.inl ⟨by rfl, fun w hS => by obtain ⟨s0, s1⟩ := hS; go_simp⟩) hS ?_
                refine wpAnyH_take (i := 3) (v := (.int .i64 lp)) rfl (by kernel_rfl) (by kernel_rfl) (by kernel_rfl) (fun _ _ _ h => h) (Or.inl ⟨by rfl, fun w hS => by obtain ⟨s0, s1⟩ := hS; go_simp⟩) hS ?_
                refine wpAnyH_take (i := 4) (v := (.bool xb)) rfl (by kernel_rfl) (by kernel_rfl) (by kernel_rfl) (fun _ _ _ h => h) (Or.inl ⟨by rfl, fun w hS => by obtain ⟨s0, s1⟩ := hS; go_simp⟩) hS ?_
                refine wpAnyH_ready (rs := [5]) (by kernel_rfl) (by simp) ?_
                refine readyH_rowC 5 rfl (ty := 34) (x := .tmp 2) (y := .tmp 131) rfl rfl rfl w.heap.size #[lv, .int .i64 nx] (by kernel_rfl) (by kernel_rfl) 34 #[.slice none 0 0, .int .i64 0] (Blk.drew (OfJ.res HI3.out)) (infoBk2 _ _) rfl (oneBk3 (OfJ.row HI3.out) _) (by rw [hW9]; exact ⟨q0', q1'⟩) (fun hS => ?_)
                refine wpAnyH_ready (rs := [6]) (by kernel_rfl) (by simp) ?_
                refine AllReadyH.cons rfl (fun K hK => ?_) AllReadyH.nil
                go_simp
                try rw [hW9] at hS
                refine hK.out _ _ hS (fun hS => ?_)
                clear hK
                refine wpAnyH_done (by kernel_rfl) ?_ _
                try rw [hW9]
                rename_i KI aI KE aE hSa hSb
                refine aE _ _ (wp_ret ?_)
                refine bodyPost_ret (v := .tuple #[.agg #[lv, .int .i64 nx], .bool xb]) (refOf_results X9 rfl rfl) rfl ?_
                have hlo := below_row (Below.drew (OfJ.lo HI3.out)) hW9 (Nat.le_refl _)
                cases xb
                · obtain ⟨la, lc, hlv⟩ := own_form (OfJ.row HI3.out)
                  exact ⟨hlo, Or.inl ⟨HNO.out (HBD.out rfl), la, _, lc, nx, by rw [hlv]⟩⟩
                · have hJ := HJ.out
                  subst hJ
                  have hrow := OfJ.row HI3.out
                  have hods : Ods wr lv (rdK ms (cntN ms)) := ods_own hrow
                  exact ⟨hlo, Or.inr ⟨ms, lv, hN.out, HGD.out rfl, by rw [HNX.out], ods_row hW9 hods HI3.out (by omega), fun k hk => by
                    have h1 := hrow.lt k hk
                    have h2 : W9.heap.size = wr.drew.heap.size := by rw [← hW9]; simp
                    have h3 : wr.drew.heap.size = wr.heap.size := rfl
                    omega⟩⟩
          · have d3n : ((ms.length : Int) != 2 + 6 * nAt ms 1) = true := by simp [h3]
            have HW : Hid (¬ OfD s) := HNO.out (fun h => h3 h.2.2.1)
            clear hfit h3
            have X8 := HXB.out.1
            obtain ⟨W9, hW9, X9, _⟩ := setRow_named X8 #[.slice none 0 0, .int .i64 0]
            go_wp2_with ((with_reducible refine st_row (ty := 34) X8 (infoBk2 _ _) (sameBk2 _ _ _ _) (oneBk2 _ _ _ _) hW9 ?_ ?_ ?_); kernel_rfl; kernel_rfl)
            refine bodyPost_ret (v := .tuple #[.agg #[.slice none 0 0, .int .i64 0], .bool false]) (refOf_results X9 rfl rfl) rfl ?_
            exact ⟨below_row HXB.out.2 hW9 (Nat.le_refl _), Or.inl ⟨HW.out, _, _, _, _, rfl⟩⟩
end Go.Proofs.Ytlhfdgeknpmdfaa
