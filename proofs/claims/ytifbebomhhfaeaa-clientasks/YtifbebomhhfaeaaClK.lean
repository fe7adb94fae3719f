/- What was sent to all; a key that is asked for. -/
import Derived.Test.YtifbebomhhfaeaaClJ
namespace Go.Proofs.Ytifbebomhhfaeaa
open Go.RowKit
set_option linter.unusedSimpArgs false
set_option linter.unusedVariables false

variable {p b x y : Nat} {T : List ByteArray} {S : List (Int × ByteArray)} {q tm tc : Nat} {av : Value} {C : Cs} {w0 : World}
theorem note_again {α : Type} [DecidableEq α] (l : List α) (k : α) : note (note l k) k = note l k := note_old (note_mem l k)
theorem sgM_again (S : List (Int × ByteArray)) (who : Int) (d : Bd) : sgM (note S (who, byS d)) who d = sgM S who d := by
  unfold sgM
  rw [note_again]
set_option maxHeartbeats 2000000 in
set_option maxRecDepth 100000 in
theorem sent_calls (v : Value) (f : Nat) (s : ByteArray) (w : World) (h : SentTo w v (3 * f + 1) s) (hf : f ≤ 4) : Calls Try.prog 13 #[v, .int .i64 (f : Int), .string s] w fun e w' => e = .returned (.bool true) ∧ w' = w := by
  obtain ⟨g, rfl, cs, X, hc⟩ := h
  have HC : Hid _ := hc
  have hn : 3 * f + 1 ≤ 13 := by omega
  have e1 : IntKind.i64.wrap (3 * (f : Int)) = 3 * (f : Int) := wrapC (by omega) (by omega)
  have e2 : IntKind.i64.wrap (3 * (f : Int) + 1) = ((3 * f + 1 : Nat) : Int) := by rw [wrapC (by omega) (by omega)]; push_cast; rfl
  generalize 3 * f + 1 = n at *
  clear hc
  go_enter Try.func13, Try.ntmps13
  go_wp2
  go_loopw [7] (fun iv wr => ∃ k : Nat, k ≤ n ∧ iv = .int .i64 k ∧ wr = w) (fun iv _ => n - (intOf iv).toNat)
  case atStart => exact ⟨0, Nat.zero_le _, rfl, rfl⟩
  case round =>
    obtain ⟨k, hk, rfl, rfl⟩ := hrel
    by_cases hlt : k < n
    · have hd : decide ((k : Int) < n) = true := decide_eq_true (by omega)
      have c0 : wr.cell? ⟨g, k * 2, none⟩ = some (.int .i64 (k : Int)) := X.cell (HC.out k hlt).1
      have c1 : wr.cell? ⟨g, k * 2 + 1, none⟩ = some (.string s) := X.cell (HC.out k hlt).2
      go_wp2
      exact ⟨⟨k + 1, by omega, by norm_cast, trivial⟩, by simp [intOf]; omega⟩
    · have hd : decide ((k : Int) < n) = false := decide_eq_false (by omega)
      go_wp2
      go_ret
      exact ⟨rfl, rfl⟩
theorem ask_bad (key : ByteArray) (w : World) (h : St w0 w p b x y T S q tm tc av C) (hk : ¬ (1 ≤ key.size ∧ key.size ≤ 64)) (hz : key.size ≤ 140737488351232) :
    Calls Try.prog 8 #[.pointer (some ⟨q, 0, none⟩), .string key] w fun e w' => e = .returned (.tuple #[.slice none 0 0, .int .i64 1]) ∧ w' = w := by
  have HM : Hid _ := madeC_calls w h
  by_cases h0 : key.size < 1
  · have hd : decide ((key.size : Int) < 1) = true := decide_eq_true (by omega)
    go_enter Try.func8, Try.ntmps8
    go_wp2_with fail
    refine Calls.mono HM.out ?_
    rintro e w2 ⟨rfl, rfl⟩
    go_wp2
    go_ret2
    exact ⟨rfl, rfl⟩
  · have hd : decide ((key.size : Int) < 1) = false := decide_eq_false (by omega)
    have hd2 : decide (64 < (key.size : Int)) = true := decide_eq_true (by omega)
    go_enter Try.func8, Try.ntmps8
    go_wp2_with fail
    refine Calls.mono HM.out ?_
    rintro e w2 ⟨rfl, rfl⟩
    go_wp2
    go_ret2
    exact ⟨rfl, rfl⟩
set_option maxHeartbeats 2000000 in
set_option maxRecDepth 100000 in
theorem ask_ok (key : ByteArray) (w : World) (h : St w0 w p b x y T S q tm tc av C) (hS : S.length < 1000000) (f : Nat) (hf : C.cf = f) (hf1 : f ≤ 4) (hi : 0 ≤ C.id ∧ C.id ≤ 15) (hk : 1 ≤ key.size ∧ key.size ≤ 64) :
    Calls Try.prog 8 #[.pointer (some ⟨q, 0, none⟩), .string key] w fun e w' => ∃ v, e = .returned (.tuple #[v, .int .i64 0]) ∧ SentTo w' v (3 * f + 1) ⟨(sgB (sgM S (100 + C.id) (smB 12 C.id 0 key))).toArray⟩ ∧ St w0 w' p b x y T (note S (100 + C.id, byS (smB 12 C.id 0 key))) q tm tc av C ∧ Kpt av w w' := by
  have HMa : Hid _ := madeC_calls w h
  have c4 : w.cell? ⟨q, 4, none⟩ = some (.int .i64 C.id) := h.blk.cell rfl
  have hd : decide ((key.size : Int) < 1) = false := decide_eq_false (by omega)
  have hd2 : decide (64 < (key.size : Int)) = false := decide_eq_false (by omega)
  obtain ⟨sM, hM⟩ : ∃ sM, (⟨(sgB (sgM S (100 + C.id) (smB 12 C.id 0 key))).toArray⟩ : ByteArray) = sM := ⟨_, rfl⟩
  obtain ⟨S', hS'⟩ : ∃ S', note S (100 + C.id, byS (smB 12 C.id 0 key)) = S' := ⟨_, rfl⟩
  have HSi : Hid (Calls Try.prog 19 #[.pointer (some ⟨q, 0, none⟩), .agg #[.int .i64 12, .int .i64 0, .int .i64 0, .int .i64 C.id, .int .i64 0, .string ⟨#[]⟩, .string key, .slice none 0 0]] w fun e w' => e = .returned (.tuple #[.string sM, .int .i64 0]) ∧ St w0 w' p b x y T S' q tm tc av C ∧ Kpt av w w') := by
    have := signedC_calls (smB 12 C.id 0 key) w h hS rfl (show (⟨#[]⟩ : ByteArray).size ≤ maxLen by decide) (by unfold smB maxLen; show key.size ≤ _; omega) (ask_right _ _ hi hk.2) (by omega)
    rw [hM, hS'] at this
    exact this
  rw [hM, hS']
  clear hM hS'
  go_enter Try.func8, Try.ntmps8
  go_wp2_with fail
  refine Calls.mono HMa.out ?_
  rintro e w ⟨rfl, rfl⟩
  go_wp2_with fail
  refine Calls.mono HSi.out ?_
  rintro e w5 ⟨rfl, H5, k5⟩
  have HTo : Hid _ := toAll_calls sM w5 H5 f hf hf1
  clear hf
  go_wp2_with fail
  refine Calls.mono HTo.out ?_
  rintro e w7 ⟨v, rfl, T7, b7⟩
  go_wp2
  go_ret2
  exact ⟨v, rfl, T7, H5.keep b7, k5.trans (Kpt.of_below b7)⟩
theorem fitsKey_calls (key : ByteArray) (w : World) (hz : key.size ≤ 140737488351232) : Calls Try.prog 9 #[.string key] w fun e w' => e = .returned (.bool (decide (1 ≤ key.size ∧ key.size ≤ 64))) ∧ w' = w := by
  by_cases h0 : 1 ≤ key.size
  · have hd : decide (1 ≤ (key.size : Int)) = true := decide_eq_true (by omega)
    by_cases h1 : key.size ≤ 64
    · have hd2 : decide ((key.size : Int) ≤ 64) = true := decide_eq_true (by omega)
      rw [decide_eq_true (show 1 ≤ key.size ∧ key.size ≤ 64 from ⟨h0, h1⟩)]
      go_enter Try.func9, Try.ntmps9
      go_wp2
      go_ret
      exact ⟨rfl, rfl⟩
    · have hd2 : decide ((key.size : Int) ≤ 64) = false := decide_eq_false (by omega)
      rw [decide_eq_false (show ¬ (1 ≤ key.size ∧ key.size ≤ 64) from fun h => h1 h.2)]
      go_enter Try.func9, Try.ntmps9
      go_wp2
      go_ret
      exact ⟨rfl, rfl⟩
  · have hd : decide (1 ≤ (key.size : Int)) = false := decide_eq_false (by omega)
    rw [decide_eq_false (show ¬ (1 ≤ key.size ∧ key.size ≤ 64) from fun h => h0 h.1)]
    go_enter Try.func9, Try.ntmps9
    go_wp2
    go_ret
    exact ⟨rfl, rfl⟩
set_option maxHeartbeats 4000000 in
set_option maxRecDepth 100000 in
theorem asks_calls (id : Int) (key : ByteArray) (w : World) (hz : key.size ≤ 140737488351232) : Calls Try.prog 3 #[.int .i64 id, .string key] w fun e w' => e = .returned (.bool true) ∧ Below w.heap.size w w' := by
  have HNB : Hid _ := newBook_calls w
  have HAw : Hid _ := awake_calls
  have HCf : Hid _ := fun wx => config_calls 0 wx
  rw [show (1 : Int) + arn 0 4 = 1 from by decide] at HCf
  have har := arn_range id 3 (by omega)
  have HAr : Hid _ := fun wx => around_calls id 3 wx (by omega) (by omega)
  generalize arn id 3 = k at *
  have ek : IntKind.i64.wrap (100 + k) = 100 + k := wrapC (by omega) (by omega)
  go_enter Try.func3, Try.ntmps3
  go_wp2_with fail
  refine Calls.mono HNB.out ?_
  rintro e w1 ⟨p, b, x, y, rfl, K1, b1, hp, hb, hx, hy⟩
  go_wp2_with fail
  refine (HCf.out _).mono ?_
  rintro e w2 ⟨rfl, b2⟩
  obtain ⟨W3, hW3, X3, B3⟩ : ∃ W3, w2.alloc (.cells #[.int .i64 1, .int .i64 3, .int .i64 2, .int .i64 5] 25) = W3 ∧ Blk W3 w2.heap.size #[.int .i64 1, .int .i64 3, .int .i64 2, .int .i64 5] 25 ∧ Below w2.heap.size w2 W3 := ⟨_, rfl, blk_new _ _ _ _ rfl, by go_grown⟩
  have hGi : (Try.prog.info? 25).map (·.size) = some (#[.int .i64 1, .int .i64 3, .int .i64 2, .int .i64 5] : Array Value).size := by kernel_rfl
  have HNw : Hid _ := new_ok 1 3 2 5 k w W3 (chain (chain b1 b2) B3) ⟨hp, hb, hx, hy⟩ ((K1.below b2).below B3) (by decide) (by decide) har.1 har.2
  go_wp2_with fail
  refine (HAr.out _).mono ?_
  rintro e w4 ⟨rfl, rfl⟩
  go_wp2_with ((with_reducible refine rd_row (ty := 25) X3 Try.underlying25 rfl hGi ?_ ?_); rfl)
  refine Calls.mono HNw.out ?_
  rintro e w3 ⟨q, tm, rfl, H3, b3⟩
  have HFk : Hid _ := fun wx => fitsKey_calls key wx hz
  clear HNw HNB HCf HAr X3
  by_cases hk : 1 ≤ key.size ∧ key.size ≤ 64
  · rw [decide_eq_true hk] at HFk
    have HAs : Hid _ := ask_ok key w3 H3 (by decide) 1 rfl (by decide) (by show 0 ≤ k ∧ k ≤ 15; omega) hk
    change Hid (Calls _ _ _ _ fun e w' => ∃ v, e = .returned (.tuple #[v, .int .i64 0]) ∧ SentTo w' v (3 * 1 + 1) ⟨(sgB (sgM [] (100 + k) (smB 12 k 0 key))).toArray⟩ ∧ St w w' p b x y [] (note [] (100 + k, byS (smB 12 k 0 key))) q tm 0 (.slice none 0 0) (cs0 1 3 2 5 k) ∧ Kpt (.slice none 0 0) w3 w') at HAs
    have hw : isSg (100 + k) = true := by unfold isSg; simp only [decide_eq_true_eq]; omega
    have he := ask_right k key (by omega) hk.2
    have hS1 := note_len ([] : List (Int × ByteArray)) (100 + k, byS (smB 12 k 0 key))
    have hR : sealR (note [] (100 + k, byS (smB 12 k 0 key))) (100 + k) (smB 12 k 0 key) = (sgM [] (100 + k) (smB 12 k 0 key), 0) := by
      unfold sealR; rw [if_pos he, hw, ← sgM_again]; rfl
    have hRS : sealS (note [] (100 + k, byS (smB 12 k 0 key))) (100 + k) (smB 12 k 0 key) = note [] (100 + k, byS (smB 12 k 0 key)) := by
      unfold sealS signS; rw [if_pos he, hw, note_again]; rfl
    have hok := sgM_ok [] (100 + k) (smB 12 k 0 key) hw
    have HSe : Hid (∀ wx, Book wx p b x y [] (note [] (100 + k, byS (smB 12 k 0 key))) → _) := fun wx hx => seal_calls (100 + k) (smB 12 k 0 key) none 0 0 wx hx (by simp at hS1; omega) (show (⟨#[]⟩ : ByteArray).size ≤ maxLen by decide) (by unfold smB maxLen; show key.size ≤ _; omega) (show ([] : List Sg).length < _ by decide) (Or.inl ⟨⟨none, 0, rfl⟩, rfl⟩)
    rw [hR, hRS] at HSe
    generalize sgM [] (100 + k) (smB 12 k 0 key) = M at *
    generalize note [] (100 + k, byS (smB 12 k 0 key)) = S1 at *
    have HO : Hid _ := fun wx => one_ref M wx hok
    have HWt : Hid _ := fun wx (hx : St w wx p b x y [] S1 q tm 0 (.slice none 0 0) (cs0 1 3 2 5 k)) => waits_calls wx hx
    rw [show (cs0 1 3 2 5 k).waits = false from rfl] at HWt
    unfold Sg.val at HSe HO
    unfold smB Bd.val at HSe
    clear hR hRS hok he hS1
    go_wp2_with fail
    refine Calls.mono HAs.out ?_
    rintro e w5 ⟨v, rfl, T5, H5, k5⟩
    obtain ⟨gv, hv, hvr⟩ := T5
    have T5' : SentTo w5 v (3 * 1 + 1) ⟨(sgB M).toArray⟩ := ⟨gv, hv, hvr⟩
    subst hv
    clear hvr HAs
    go_wp2_with fail
    refine (HFk.out _).mono ?_
    rintro e w5 ⟨rfl, rfl⟩
    go_wp2_with fail
    refine Calls.mono (HSe.out _ H5.book) ?_
    rintro e w6 ⟨rfl, K6, o6⟩
    obtain ⟨W7, hW7, M7, B7⟩ : ∃ W7, w6.alloc (.cells #[.int .i64 M.frm, .string M.body, .string M.sig] 38) = W7 ∧ Blk W7 w6.heap.size #[.int .i64 M.frm, .string M.body, .string M.sig] 38 ∧ Below w6.heap.size w6 W7 := ⟨_, rfl, blk_new _ _ _ _ rfl, by go_grown⟩
    have H7 := (H5.off2 K6 o6).keep B7
    have T7 := (T5'.off2 H5.book o6).below B7
    have m0 : W7.cell? ⟨w6.heap.size, 0, none⟩ = some (.int .i64 M.frm) := M7.cell rfl
    have m1 : W7.cell? ⟨w6.heap.size, 1, none⟩ = some (.string M.body) := M7.cell rfl
    have m2 : W7.cell? ⟨w6.heap.size, 2, none⟩ = some (.string M.sig) := M7.cell rfl
    clear HSe T5'
    go_wp2_with fail
    refine (HO.out _).mono ?_
    rintro e w8 ⟨rfl, b8⟩
    have H8 := H7.keep b8
    have HSn : Hid _ := sent_calls _ 1 _ w8 (T7.below b8) (by decide)
    go_wp2_with fail
    refine Calls.mono HSn.out ?_
    rintro e w8 ⟨rfl, rfl⟩
    go_wp2_with fail
    refine Calls.mono (HWt.out _ H8) ?_
    rintro e w8 ⟨rfl, rfl⟩
    have HB : Hid _ := H8.below
    go_wp2_with fail
    refine Calls.mono (HAw.out _) ?_
    rintro e w9 ⟨rfl, b9⟩
    go_wp2
    go_ret
    exact ⟨rfl, HB.out.trans (b9.mono HB.out.size)⟩
  · rw [decide_eq_false hk] at HFk
    have HAs : Hid _ := ask_bad key w3 H3 hk hz
    have HWt : Hid _ := waits_calls w3 H3
    rw [show (cs0 1 3 2 5 k).waits = false from rfl] at HWt
    have HB : Hid _ := H3.below
    go_wp2_with fail
    refine Calls.mono HAs.out ?_
    rintro e w3 ⟨rfl, rfl⟩
    go_wp2_with fail
    refine (HFk.out _).mono ?_
    rintro e w3 ⟨rfl, rfl⟩
    go_wp2_with fail
    refine Calls.mono HWt.out ?_
    rintro e w3 ⟨rfl, rfl⟩
    go_wp2_with fail
    refine Calls.mono (HAw.out _) ?_
    rintro e w9 ⟨rfl, b9⟩
    go_wp2
    go_ret
    exact ⟨rfl, HB.out.trans (b9.mono HB.out.size)⟩
end Go.Proofs.Ytifbebomhhfaeaa
