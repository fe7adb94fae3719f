/- The walk of VlogCuts. -/
import Derived.Test.YtjpmnmgnbpecjaaVlKv
import Derived.Test.YtjpmnmgnbpecjaaVlPv
namespace Go.Proofs.Ytjpmnmgnbpecjaa
open Go.Shelf Go.RowKit Go.Lib Go.Sort
open Go.ChangeMaps (setBlock)
set_option linter.unusedSimpArgs false
set_option linter.unusedVariables false
theorem cut_bad {L : Lv} {q : Int} (h : q ≤ L.lo ∨ 1073741824 < q ∨ q % 4 ≠ 0) : L.cut q = (L, 1) := by unfold Lv.cut; rw [if_pos h]
theorem cut_lo {L : Lv} {q : Int} (h : ¬ (q ≤ L.lo ∨ 1073741824 < q ∨ q % 4 ≠ 0)) : (L.cut q).1.lo = q ∧ (L.cut q).2 = 0 ∧ ∀ j, (L.cut q).1.sl j = if L.num j ≤ q then noSlot else L.sl j := by unfold Lv.cut; rw [if_neg h]; exact ⟨rfl, rfl, fun j => rfl⟩
theorem cut_wi {L : Lv} {q : Int} (h : ¬ (q ≤ L.lo ∨ 1073741824 < q ∨ q % 4 ≠ 0)) {s : Int} (hs : s ≤ L.lo + 8) : ((L.cut q).1.wi s = decide (q < s)) ∧ (q < s → L.wi s = true ∧ (L.cut q).1.sl (pla s) = L.sl (pla s)) := by
  obtain ⟨h1, _, h3⟩ := cut_lo h
  constructor
  · unfold Lv.wi
    rw [h1]
    by_cases e : q < s
    · simp [e]; omega
    · simp [e]
  · intro e
    have hw : L.wi s = true := by unfold Lv.wi; simp; omega
    refine ⟨hw, ?_⟩
    rw [h3, num_pla hw, if_neg (by omega)]
theorem cut_prop {L : Lv} {q : Int} (h : ¬ (q ≤ L.lo ∨ 1073741824 < q ∨ q % 4 ≠ 0)) {s : Int} (hs : s ≤ L.lo + 8) : (L.cut q).1.propAt s = (L.propAt s && decide (q < s)) := by
  obtain ⟨h1, h2⟩ := cut_wi h hs
  unfold Lv.propAt
  rw [h1]
  by_cases e : q < s
  · rw [(h2 e).1, (h2 e).2, decide_eq_true e]; simp
  · rw [decide_eq_false e]; simp
theorem cut_voted {L : Lv} {q : Int} (h : ¬ (q ≤ L.lo ∨ 1073741824 < q ∨ q % 4 ≠ 0)) {s : Int} (hs : s ≤ L.lo + 8) (kd f : Int) : ((L.cut q).1.votedV kd s f).isSome = ((L.votedV kd s f).isSome && decide (q < s)) := by
  obtain ⟨h1, h2⟩ := cut_wi h hs
  unfold Lv.votedV
  rw [h1]
  by_cases e : q < s
  · rw [(h2 e).1, (h2 e).2, decide_eq_true e]; simp
  · rw [decide_eq_false e]; simp
theorem took {α : Type} {l : List α} {k : Nat} {s : α} (P : α → Bool) (h : l[k]? = some s) : ((l.take (k + 1)).filter P).length = ((l.take k).filter P).length + (if P s = true then 1 else 0) := by
  have hk : k < l.length := (List.getElem?_eq_some_iff.1 h).1
  have e : l[k] = s := (List.getElem?_eq_some_iff.1 h).2
  rw [List.take_succ_eq_append_getElem hk, List.filter_append, List.length_append, e]
  by_cases hp : P s = true
  · simp [hp]
  · simp [hp]
set_option maxHeartbeats 16000000 in
set_option maxRecDepth 100000 in
theorem cuts_calls (v1 : Value) (l1 : List Ac) (sq : Int) (w : World) (h1 : Acs w v1 l1) :
    Calls Try.prog 6 #[v1, .int .i64 sq] w fun e w' => e = .returned (.bool true) ∧ Below w.heap.size w w' := by
  have HBg := begun_calls v1 l1 w w h1 (Below.refl _ _)
  have HKI : Hid (KInv (fun _ => True) (runs (Lv.new 7) (l1.take 80))) := runs_kinv _ _ (KInv.new _ 7) (fun _ _ => trivial)
  generalize runs (Lv.new 7) (l1.take 80) = M at *
  obtain ⟨va, vcap, rfl, _⟩ := h1.any
  clear h1
  go_enter Try.func6, Try.ntmps6
  go_wp2_with fail
  refine HBg.mono ?_
  rintro e w1 ⟨rfl, mp1, A1⟩
  have HLo : Hid _ := low_calls A1.lg A1.inv
  have HKp : Hid _ := kept_calls A1.lg A1.inv (Fl.ok A1.fl)
  have HA1 : Hid _ := A1
  have hp1 : w.heap.size < w1.heap.size := A1.lg.lt
  have hlo := A1.inv.lo
  clear A1 HBg
  go_wp2_with fail
  refine Calls.mono HLo.out ?_
  rintro e w2 ⟨rfl, hw2⟩
  obtain rfl := hw2.symm
  clear HLo
  go_wp2_with fail
  refine Calls.mono HKp.out ?_
  rintro e w2 ⟨kv, rfl, hkv, b2⟩
  have HA2 : Hid (Ats w.heap.size w w2 w.heap.size mp1 M ∧ KV w2 kv M.kept) := ⟨HA1.out.below b2, hkv.kv⟩
  have z2 := b2.size
  obtain ⟨ka, kc, hkl⟩ := HA2.out.2.len
  subst hkl
  clear hkv b2 HKp HA1
  obtain ⟨W3, hW3, X3, Y3, B3⟩ : ∃ W3, (w2.alloc (.cells #[.bool false, .bool false, .bool false, .bool false, .bool false, .bool false, .bool false, .bool false, .bool false] 51)).alloc (.cells #[.bool false, .bool false, .bool false, .bool false, .bool false, .bool false, .bool false, .bool false, .bool false] 51) = W3 ∧ Blk W3 w2.heap.size #[.bool false, .bool false, .bool false, .bool false, .bool false, .bool false, .bool false, .bool false, .bool false] 51 ∧ Blk W3 (w2.heap.size + 1) #[.bool false, .bool false, .bool false, .bool false, .bool false, .bool false, .bool false, .bool false, .bool false] 51 ∧ Below w2.heap.size w2 W3 := ⟨_, rfl, (blk_new _ _ _ _ rfl).alloc _, blk_new _ _ _ _ (by simp), by go_grown⟩
  have HA3 : Hid (Ats w.heap.size w W3 w.heap.size mp1 M ∧ KV W3 (.slice ka M.kept.length kc) M.kept ∧ Bls W3 w2.heap.size (fun j => M.propAt (M.lo + j)) 0 ∧ Bls W3 (w2.heap.size + 1) (fun j => (M.votedV 4 (M.lo + j) 3).isSome) 0) := ⟨HA2.out.1.below B3, HA2.out.2.below B3, ⟨_, X3, rfl, fun j hj => by omega⟩, ⟨_, Y3, rfl, fun j hj => by omega⟩⟩
  clear X3 Y3 B3 HA2
  go_wp2_with fail
  go_loopw [10] (fun iv wr => ∃ k : Nat, k ≤ 9 ∧ iv = .int .i64 k ∧ Hid (Ats w.heap.size w wr w.heap.size mp1 M ∧ KV wr (.slice ka M.kept.length kc) M.kept ∧ Bls wr w2.heap.size (fun j => M.propAt (M.lo + j)) k ∧ Bls wr (w2.heap.size + 1) (fun j => (M.votedV 4 (M.lo + j) 3).isSome) k)) (fun iv _ => 9 - (intOf iv).toNat)
  case atStart => exact ⟨0, by omega, rfl, HA3⟩
  case round =>
    obtain ⟨k, hk, rfl, HI⟩ := hrel
    by_cases hlt : k < 9
    · have hd1 : decide ((k : Int) ≤ 8) = true := by simp only [decide_eq_true_eq]; omega
      have hki : (k : Int) < 9 := by omega
      have hw1 : IntKind.i64.wrap (M.lo + (k : Int)) = M.lo + (k : Int) := by rw [IntKind.wrap_i64]; omega
      have HP : Hid _ := proposal_calls HI.out.1.lg HI.out.1.inv (M.lo + (k : Int))
      go_wp2_with fail
      refine Calls.mono HP.out ?_
      rintro e w3 ⟨rfl, b3⟩
      have HI3 : Hid _ := And.intro (HI.out.1.below b3) (And.intro (HI.out.2.1.below b3) (And.intro (HI.out.2.2.1.below b3) (HI.out.2.2.2.below b3)))
      clear HP HI b3
      obtain ⟨u0, q0⟩ := HI3.out.2.2.1.any hlt
      have q1 := HI3.out.2.2.1.froz k
      obtain ⟨W4, hW4⟩ : ∃ W4, w3.setCell ⟨w2.heap.size, k, none⟩ (.bool (M.propAt (M.lo + (k : Int)))) = W4 := ⟨_, rfl⟩
      have HI4 : Hid (Ats w.heap.size w W4 w.heap.size mp1 M ∧ KV W4 (.slice ka M.kept.length kc) M.kept ∧ Bls W4 w2.heap.size (fun j => M.propAt (M.lo + j)) (k + 1) ∧ Bls W4 (w2.heap.size + 1) (fun j => (M.votedV 4 (M.lo + j) 3).isSome) k) := by
        show _ ∧ _
        rw [← hW4]
        obtain ⟨a1, a2, a3, a4⟩ := HI3.out
        obtain ⟨cs, X, _⟩ := a3
        exact ⟨a1.cell X (by decide) (by omega) (by omega) _, a2.cell X (by decide) (by decide) _, Bls.note (HI3.out.2.2.1) hlt rfl, a4.other (by omega) _⟩
      have HVt : Hid _ := voted4_calls HI4.out.1.lg HI4.out.1.inv (M.lo + (k : Int)) 3
      obtain ⟨u1, q2⟩ := HI4.out.2.2.2.any hlt
      generalize M.propD (M.lo + (k : Int)) = D0 at *
      generalize M.propB (M.lo + (k : Int)) = D1 at *
      generalize M.propAt (M.lo + (k : Int)) = P0 at *
      clear HI3
      go_wp2_with fail
      refine Calls.mono HVt.out ?_
      rintro e w5 ⟨rfl, b5⟩
      have HI5 : Hid _ := And.intro (HI4.out.1.below b5) (And.intro (HI4.out.2.1.below b5) (And.intro (HI4.out.2.2.1.below b5) (HI4.out.2.2.2.below b5)))
      clear HVt HI4 b5 hW4 q0 q1 q2
      obtain ⟨u2, q0⟩ := HI5.out.2.2.2.any hlt
      have q1 := HI5.out.2.2.2.froz k
      obtain ⟨W6, hW6⟩ : ∃ W6, w5.setCell ⟨w2.heap.size + 1, k, none⟩ (.bool (M.votedV 4 (M.lo + (k : Int)) 3).isSome) = W6 := ⟨_, rfl⟩
      have HI6 : Hid (Ats w.heap.size w W6 w.heap.size mp1 M ∧ KV W6 (.slice ka M.kept.length kc) M.kept ∧ Bls W6 w2.heap.size (fun j => M.propAt (M.lo + j)) (k + 1) ∧ Bls W6 (w2.heap.size + 1) (fun j => (M.votedV 4 (M.lo + j) 3).isSome) (k + 1)) := by
        show _ ∧ _
        rw [← hW6]
        obtain ⟨a1, a2, a3, a4⟩ := HI5.out
        obtain ⟨cs, X, _⟩ := a4
        exact ⟨a1.cell X (by decide) (by omega) (by omega) _, a2.cell X (by decide) (by decide) _, a3.other (by omega) _, Bls.note (HI5.out.2.2.2) hlt rfl⟩
      generalize (M.votedV 4 (M.lo + (k : Int)) 3).isSome = V0 at *
      generalize msgOf (M.votedV 4 (M.lo + (k : Int)) 3) = V1 at *
      clear HI5
      go_wp2
      exact ⟨⟨k + 1, by omega, by norm_cast, HI6⟩, by simp [intOf]; omega⟩
    · have hd1 : decide ((k : Int) ≤ 8) = false := by simp only [decide_eq_false_iff_not]; omega
      have hk9 : k = 9 := by omega
      have HI9 : Hid (Ats w.heap.size w wr w.heap.size mp1 M ∧ KV wr (.slice ka M.kept.length kc) M.kept ∧ Bls wr w2.heap.size (fun j => M.propAt (M.lo + j)) 9 ∧ Bls wr (w2.heap.size + 1) (fun j => (M.votedV 4 (M.lo + j) 3).isSome) 9) := ⟨HI.out.1, HI.out.2.1, hk9 ▸ HI.out.2.2.1, hk9 ▸ HI.out.2.2.2⟩
      have HCt : Hid _ := cut_calls HI9.out.1.lg HI9.out.1.inv sq
      have HCo : Hid _ := cut_ok HI9.out.1.inv HI9.out.1.fl sq
      obtain ⟨w5, hw5⟩ : ∃ w5, w5 = wr := ⟨wr, rfl⟩
      subst hw5
      clear HI HA3 hW3 hk9
      by_cases hbad : sq ≤ M.lo ∨ 1073741824 < sq ∨ sq % 4 ≠ 0
      · have hcb := cut_bad hbad
        rw [hcb] at HCt
        go_wp2_with fail
        refine Calls.mono HCt.out ?_
        rintro e w7 ⟨rfl, mp7, l7, s7⟩
        have HA7 : Hid _ := Ats.step HI9.out.1 l7 s7 HI9.out.1.inv HI9.out.1.fl
        have HLo7 : Hid _ := low_calls HA7.out.lg HA7.out.inv
        clear l7 s7 HCt HCo HI9
        by_cases c1 : sq ≤ M.lo
        · have e1 : decide (sq ≤ M.lo) = true := decide_eq_true c1
          clear hbad hcb
          go_wp2_with fail
          refine Calls.mono HLo7.out ?_
          rintro e w8 ⟨rfl, hw8⟩
          obtain rfl := hw8.symm
          go_wp2_with fail
          refine (awake_calls _).mono ?_
          rintro e w9 ⟨rfl, b9⟩
          go_wp2
          go_ret
          exact ⟨rfl, HA7.out.bel.trans (b9.mono HA7.out.sz)⟩
        · have e1 : decide (sq ≤ M.lo) = false := decide_eq_false c1
          by_cases c2 : 1073741824 < sq
          · have e2 : decide (1073741824 < sq) = true := decide_eq_true c2
            clear hbad hcb
            go_wp2_with fail
            refine Calls.mono HLo7.out ?_
            rintro e w8 ⟨rfl, hw8⟩
            obtain rfl := hw8.symm
            go_wp2_with fail
            refine (awake_calls _).mono ?_
            rintro e w9 ⟨rfl, b9⟩
            go_wp2
            go_ret
            exact ⟨rfl, HA7.out.bel.trans (b9.mono HA7.out.sz)⟩
          · have e2 : decide (1073741824 < sq) = false := decide_eq_false c2
            have c3 : sq % 4 ≠ 0 := by rcases hbad with x | x | x <;> first | exact absurd x c1 | exact absurd x c2 | exact x
            have ht : sq.tmod 4 = sq % 4 := Int.tmod_eq_emod_of_nonneg (by omega)
            have e3 : (sq % 4 != 0) = true := by simpa using c3
            have e4 : (sq % 4 == 0) = false := by simpa using c3
            generalize sq % 4 = m4 at *
            clear hbad hcb c3
            go_wp2_with fail
            refine Calls.mono HLo7.out ?_
            rintro e w8 ⟨rfl, hw8⟩
            obtain rfl := hw8.symm
            go_wp2_with fail
            refine (awake_calls _).mono ?_
            rintro e w9 ⟨rfl, b9⟩
            go_wp2
            go_ret
            exact ⟨rfl, HA7.out.bel.trans (b9.mono HA7.out.sz)⟩
      · obtain ⟨hl1, hl2, _⟩ := cut_lo hbad
        have HPr : Hid (∀ s, s ≤ M.lo + 8 → (M.cut sq).1.propAt s = (M.propAt s && decide (sq < s))) := fun s hs => cut_prop hbad hs
        have HVo : Hid (∀ s, s ≤ M.lo + 8 → ((M.cut sq).1.votedV 4 s 3).isSome = ((M.votedV 4 s 3).isSome && decide (sq < s))) := fun s hs => cut_voted hbad hs 4 3
        have HKl : Hid _ := cut_kept HKI.out (q := sq) (by omega) (by omega) (by omega)
        have HKm : Hid (M.kept.length ≤ 8) := by
          show _ ≤ _
          have := List.length_filter_le (fun s : Slot => decide (0 < s.fs)) ((List.range 8).map fun (i : Nat) => M.sl (pla (M.lo + 1 + (i : Int))))
          simpa [Lv.kept] using this
        have e1 : decide (sq ≤ M.lo) = false := by simp only [decide_eq_false_iff_not]; omega
        have e2 : decide (1073741824 < sq) = false := by simp only [decide_eq_false_iff_not]; omega
        have e3 : sq.tmod 4 = 0 := by rw [Int.tmod_eq_emod_of_nonneg (by omega)]; omega
        generalize M.cut sq = R at *
        obtain ⟨M', R2⟩ := R
        simp only at hl1 hl2 HPr HVo HKl
        subst hl2
        have HL1 : Hid _ := hl1
        clear hbad hl1 HKI
        go_wp2_with fail
        refine Calls.mono HCt.out ?_
        rintro e w7 ⟨rfl, mp7, l7, s7⟩
        have HI7 : Hid (Ats w.heap.size w w7 w.heap.size mp7 M' ∧ KV w7 (.slice ka M.kept.length kc) M.kept ∧ Bls w7 w2.heap.size (fun j => M.propAt (M.lo + j)) 9 ∧ Bls w7 (w2.heap.size + 1) (fun j => (M.votedV 4 (M.lo + j) 3).isSome) 9) := ⟨Ats.step HI9.out.1 l7 s7 HCo.out.1 HCo.out.2.1, HI9.out.2.1.stp HI9.out.1.lg s7, HI9.out.2.2.1.stp HI9.out.1.lg s7 (by omega), HI9.out.2.2.2.stp HI9.out.1.lg s7 (by omega)⟩
        have HLo7 : Hid (Calls Try.prog 11 #[.pointer (some ⟨w.heap.size, 0, none⟩)] w7 fun e w' => e = .returned (.int .i64 sq) ∧ w' = w7) := by
          have := low_calls HI7.out.1.lg HI7.out.1.inv
          rw [HL1.out] at this
          exact this
        clear l7 s7 HCt HCo HI9
        go_wp2_with fail
        refine Calls.mono HLo7.out ?_
        rintro e w8 ⟨rfl, hw8⟩
        obtain rfl := hw8.symm
        clear HLo7 e1 e2 e3
        go_wp2_with fail
        go_loopw [15] (fun iv wr => ∃ k : Nat, k ≤ 9 ∧ iv = .int .i64 k ∧ Hid (Ats w.heap.size w wr w.heap.size mp7 M' ∧ KV wr (.slice ka M.kept.length kc) M.kept ∧ Bls wr w2.heap.size (fun j => M.propAt (M.lo + j)) 9 ∧ Bls wr (w2.heap.size + 1) (fun j => (M.votedV 4 (M.lo + j) 3).isSome) 9)) (fun iv _ => 9 - (intOf iv).toNat)
        case atStart => exact ⟨0, by omega, rfl, HI7⟩
        case round =>
          clear HI7
          obtain ⟨q, hq, rfl, HI⟩ := hrel
          by_cases hlt : q < 9
          · have hd9 : decide ((q : Int) ≤ 8) = true := by simp only [decide_eq_true_eq]; omega
            have hqi : (q : Int) < 9 := by omega
            have hw9 : IntKind.i64.wrap (M.lo + (q : Int)) = M.lo + (q : Int) := by rw [IntKind.wrap_i64]; omega
            have HP := fun wx (hb : Below wr.heap.size wr wx) => proposal_calls (HI.out.1.below hb).lg HI.out.1.inv (M.lo + (q : Int))
            have HV := fun wx (hb : Below wr.heap.size wr wx) => voted4_calls (HI.out.1.below hb).lg HI.out.1.inv (M.lo + (q : Int)) 3
            rw [HPr.out _ (by omega)] at HP
            rw [HVo.out _ (by omega)] at HV
            have HP2 : Hid _ := HP
            have HV2 : Hid _ := HV
            clear HP HV
            have HNx : Hid (∀ wx, Below wr.heap.size wr wx → Ats w.heap.size w wx w.heap.size mp7 M' ∧ KV wx (.slice ka M.kept.length kc) M.kept ∧ Bls wx w2.heap.size (fun j => M.propAt (M.lo + j)) 9 ∧ Bls wx (w2.heap.size + 1) (fun j => (M.votedV 4 (M.lo + j) 3).isSome) 9) := fun wx hb => ⟨HI.out.1.below hb, HI.out.2.1.below hb, HI.out.2.2.1.below hb, HI.out.2.2.2.below hb⟩
            have HCl : Hid (∀ wx, Below wr.heap.size wr wx → wx.cell? ⟨w2.heap.size, q, none⟩ = some (.bool (M.propAt (M.lo + (q : Int)))) ∧ wx.cell? ⟨w2.heap.size + 1, q, none⟩ = some (.bool (M.votedV 4 (M.lo + (q : Int)) 3).isSome)) := fun wx hb => ⟨(HNx.out wx hb).2.2.1.cellAt hlt, (HNx.out wx hb).2.2.2.cellAt hlt⟩
            generalize hab : decide (sq < M.lo + (q : Int)) = ab at *
            generalize M.propAt (M.lo + (q : Int)) = x at *
            generalize (M.votedV 4 (M.lo + (q : Int)) 3).isSome = y at *
            generalize M'.propD (M.lo + (q : Int)) = D0 at *
            generalize M'.propB (M.lo + (q : Int)) = D1 at *
            generalize msgOf (M'.votedV 4 (M.lo + (q : Int)) 3) = D2 at *
            clear HI HPr HVo
            cases x <;> cases y <;> cases ab
            all_goals simp only [Bool.false_and, Bool.true_and] at HP2 HV2
            all_goals
              go_wp2_with fail
              refine Calls.mono (HP2.out _ (Below.refl _ _)) ?_
              rintro e x0 ⟨rfl, y0⟩
              go_wp2_with fail
              refine Calls.mono (HV2.out _ y0) ?_
              rintro e x1 ⟨rfl, y1⟩
              have y3 : Below wr.heap.size wr x1 := y0.trans (y1.mono y0.size)
              obtain ⟨x2, hx2, y4⟩ : ∃ x2, x1.alloc (.cells #[.int .i64 D2.1, .string D2.2.1, .string D2.2.2] 38) = x2 ∧ Below x1.heap.size x1 x2 := ⟨_, rfl, by go_grown⟩
              have y2 : Below wr.heap.size wr x2 := y3.trans (y4.mono y3.size)
              obtain ⟨t0, t1⟩ := HCl.out _ y2
              clear y0 y1 y3 y4
              go_wp2
              exact ⟨⟨q + 1, by omega, by norm_cast, HNx.out _ y2⟩, by simp [intOf]; omega⟩
          · have hd9 : decide ((q : Int) ≤ 8) = false := by simp only [decide_eq_false_iff_not]; omega
            have HI8 : Hid (Ats w.heap.size w wr w.heap.size mp7 M' ∧ KV wr (.slice ka M.kept.length kc) M.kept) := ⟨HI.out.1, HI.out.2.1⟩
            obtain ⟨w8, hw8⟩ : ∃ w8, w8 = wr := ⟨wr, rfl⟩
            subst hw8
            clear HI HPr HVo
            go_wp2_with fail
            go_loopw [22, 23] (fun nv iv wr => ∃ k : Nat, k ≤ M.kept.length ∧ iv = .int .i64 k ∧ nv = .int .i64 (((M.kept.take k).filter fun s => decide (sq < s.fs)).length : Nat) ∧ Hid (Ats w.heap.size w wr w.heap.size mp7 M' ∧ KV wr (.slice ka M.kept.length kc) M.kept)) (fun nv iv _ => M.kept.length - (intOf iv).toNat)
            case atStart => exact ⟨0, by omega, rfl, rfl, HI8⟩
            case round =>
              clear HI8
              obtain ⟨j, hj, rfl, rfl, HI⟩ := hrel
              have HKm2 : Hid _ := HKm.out
              by_cases hlt2 : j < M.kept.length
              · have hd5 : decide ((j : Int) < (M.kept.length : Int)) = true := by simp only [decide_eq_true_eq]; omega
                have hji : (j : Int) < (M.kept.length : Int) := by omega
                obtain ⟨s, hs⟩ : ∃ s, M.kept[j]? = some s := ⟨_, List.getElem?_eq_getElem hlt2⟩
                obtain ⟨g, cap, lv, he, hg, _, hcl⟩ := HI.out.2.at_ hs
                injection he with he1 he2 he3
                subst he1
                have c2 : wr.cell? ⟨g, j * 8 + 2, none⟩ = some (.int .i64 s.fs) := hcl 2 _ rfl
                have HTk : Hid _ := took (fun s => decide (sq < s.fs)) hs
                have hcl2 : ((M.kept.take j).filter fun s => decide (sq < s.fs)).length ≤ j := Nat.le_trans (List.length_filter_le _ _) (by rw [List.length_take]; omega)
                have hjj : j < 8 := by have := HKm2.out; omega
                clear hcl hs he2 he3
                generalize ((M.kept.take j).filter fun s => decide (sq < s.fs)).length = c at *
                have hwc : IntKind.i64.wrap ((c : Int) + 1) = (c : Int) + 1 := by rw [IntKind.wrap_i64]; omega
                by_cases hgt : sq < s.fs
                · have hd6 : decide (sq < s.fs) = true := decide_eq_true hgt
                  rw [hd6, if_pos rfl] at HTk
                  generalize s.fs = fs at *
                  go_wp2
                  exact ⟨⟨j + 1, by omega, by norm_cast, by rw [HTk.out]; push_cast; rfl, HI⟩, by simp [intOf]; omega⟩
                · have hd6 : decide (sq < s.fs) = false := decide_eq_false hgt
                  rw [hd6, if_neg (by decide)] at HTk
                  generalize s.fs = fs at *
                  go_wp2
                  exact ⟨⟨j + 1, by omega, by norm_cast, by rw [HTk.out]; rfl, HI⟩, by simp [intOf]; omega⟩
              · have hd5 : decide ((j : Int) < (M.kept.length : Int)) = false := by simp only [decide_eq_false_iff_not]; omega
                have hje : ((M.kept.take j).filter fun s => decide (sq < s.fs)).length = M'.kept.length := by rw [List.take_of_length_le (by omega), HKl.out]
                rw [hje]
                have HKp : Hid _ := kept_calls HI.out.1.lg HI.out.1.inv (Fl.ok HI.out.1.fl)
                clear hje HKl
                go_wp2_with fail
                refine Calls.mono HKp.out ?_
                rintro e w9 ⟨kv2, rfl, hkv2, b9⟩
                obtain ⟨ka2, kc2, rfl⟩ := hkv2.kv.len
                have HB9 : Hid (Below w.heap.size w w9) := HI.out.1.bel.trans (b9.mono HI.out.1.sz)
                clear hkv2 b9 HKp
                go_wp2_with fail
                refine (awake_calls _).mono ?_
                rintro e w10 ⟨rfl, b10⟩
                go_wp2
                go_ret
                exact ⟨rfl, HB9.out.trans (b10.mono HB9.out.size)⟩
end Go.Proofs.Ytjpmnmgnbpecjaa
