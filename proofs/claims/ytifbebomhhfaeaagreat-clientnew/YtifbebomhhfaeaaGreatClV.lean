/- Verify where it refuses ahead of a proof; what there is not. -/
import Derived.Test.YtifbebomhhfaeaaGreatClJ
namespace Go.Proofs.YtifbebomhhfaeaaGreat
open Go.RowKit
set_option linter.unusedSimpArgs false
set_option linter.unusedVariables false

variable {p b x y : Nat} {T : List ByteArray} {S : List (Int × ByteArray)}
def lightZ : Array Value := #[.int .i64 0, .string ⟨#[]⟩, .bool false]
theorem infoLight : (Tryz.prog.info? 31).map (·.size) = some lightZ.size := by kernel_rfl
theorem lightZ_one : lightZ.all (·.oneCell') = true := by simp [lightZ, Value.oneCell']
theorem lightZ_same : lightZ.size = lightZ.size := rfl
theorem verify_results {w' : World} {c0 c1 c2 v : Value} {r : Nat} (X : Blk w' r #[c0, c1, c2] 31) {t : Array Value} (h1 : t.getD 8 undef = .pointer (some ⟨r, 0, none⟩)) (h2 : t.getD 9 undef = v) :
    (results Tryz.f6 t).run Tryz.prog w' = .ok (.tuple #[.agg #[c0, c1, c2], v]) w' := by
  have a0 := X.cell (o := 0) rfl
  have a1 := X.cell (o := 1) rfl
  have a2 := X.cell (o := 2) rfl
  simp only [Array.getD_eq_getD_getElem?] at h1 h2
  simp [results, Tryz.results6, go_sem, h1, h2, a0, a1, a2]
/-- The two boxes that Verify opens with. -/
theorem verify_boxes (w : World) (cf cc cg cp : Int) : ∃ W1, (w.alloc (.cells #[.int .i64 cf, .int .i64 cc, .int .i64 cg, .int .i64 cp] 23)).alloc (.cells #[.int .i64 0, .string ⟨#[]⟩, .bool false] 31) = W1 ∧ Blk W1 w.heap.size #[.int .i64 cf, .int .i64 cc, .int .i64 cg, .int .i64 cp] 23 ∧ Blk W1 (w.heap.size + 1) lightZ 31 ∧ Below w.heap.size w W1 ∧ W1.heap.size = w.heap.size + 2 :=
  ⟨_, rfl, (blk_new _ _ _ _ rfl).alloc _, blk_new _ _ _ _ (by simp), by go_grown, by simp⟩
theorem infoCfg (cf cc cg cp : Int) : (Tryz.prog.info? 23).map (·.size) = some (#[.int .i64 cf, .int .i64 cc, .int .i64 cg, .int .i64 cp] : Array Value).size := by kernel_rfl

set_option maxHeartbeats 2000000 in
set_option maxRecDepth 100000 in
theorem verify_unfit (cf cc cg cp : Int) (bv : Value) (key s : ByteArray) (w : World) (hF : fitsB cf cc cg cp = false) :
    Calls Tryz.prog 6 #[.agg #[.int .i64 cf, .int .i64 cc, .int .i64 cg, .int .i64 cp], bv, .string key, .string s] w fun e w' => e = .returned (.tuple #[.agg lightZ, .int .i64 1]) ∧ Below w.heap.size w w' := by
  obtain ⟨W1, hW1, XC, XL, B1, Z1⟩ := verify_boxes w cf cc cg cp
  have HF : Hid _ := fun wx => fits_calls cf cc cg cp wx
  rw [hF] at HF
  have hGi := infoCfg cf cc cg cp
  have HZ1 : Hid _ := Z1
  clear Z1
  go_enter Tryz.func6, Tryz.ntmps6
  go_wp2_with ((with_reducible refine rd_row (ty := 23) XC Tryz.underlying23 rfl hGi ?_ ?_); rfl)
  refine (HF.out _).mono ?_
  rintro e w2 ⟨rfl, b2⟩
  have X2 := XL.below b2
  obtain ⟨W3, hW3, X3, _⟩ := setRow_named X2 lightZ
  go_wp2_with ((with_reducible refine st_row (ty := 31) X2 infoLight lightZ_same lightZ_one hW3 ?_ ?_ ?_); rfl; rfl)
  refine bodyPost_ret (v := .tuple #[.agg lightZ, .int .i64 1]) (verify_results X3 rfl rfl) rfl ?_
  exact ⟨rfl, below_row (chain B1 b2) hW3 (by omega)⟩

set_option maxHeartbeats 2000000 in
set_option maxRecDepth 100000 in
theorem verify_err (cf cc cg cp : Int) (key s : ByteArray) (w : World) (h : Book w p b x y T S) (hS : S.length < 1000000) (hs : s.size ≤ maxLen) (hF : fitsB cf cc cg cp = true) (hE : (opnd S s).2.2 ≠ 0) :
    Calls Tryz.prog 6 #[.agg #[.int .i64 cf, .int .i64 cc, .int .i64 cg, .int .i64 cp], .pointer (some ⟨p, 0, none⟩), .string key, .string s] w fun e w' => e = .returned (.tuple #[.agg lightZ, .int .i64 (opnd S s).2.2]) ∧ Below w.heap.size w w' := by
  obtain ⟨W1, hW1, XC, XL, B1, Z1⟩ := verify_boxes w cf cc cg cp
  have HF : Hid _ := fun wx => fits_calls cf cc cg cp wx
  rw [hF] at HF
  have HI : Hid _ := fun wx (hx : Book wx p b x y T S) => isBookC_calls wx hx hS
  have HO : Hid _ := fun wx (hx : Book wx p b x y T S) => opened_calls s wx hx hS hs
  have hGi := infoCfg cf cc cg cp
  have HZ1 : Hid _ := Z1
  generalize (opnd S s).1 = f at *
  generalize (opnd S s).2.1 = D at *
  generalize (opnd S s).2.2 = E at *
  unfold Bd.val at HO
  have hd : (E != 0) = true := by simpa using hE
  clear Z1 hE
  go_enter Tryz.func6, Tryz.ntmps6
  go_wp2_with ((with_reducible refine rd_row (ty := 23) XC Tryz.underlying23 rfl hGi ?_ ?_); rfl)
  refine (HF.out _).mono ?_
  rintro e w2 ⟨rfl, b2⟩
  have B2 := chain B1 b2
  go_wp2_with fail
  refine (HI.out _ (h.below B2)).mono ?_
  rintro e w3 ⟨rfl, b3⟩
  have B3 := chain B2 b3
  go_wp2_with fail
  refine (HO.out _ (h.below B3)).mono ?_
  rintro e w4 ⟨a0, n0, k0, rfl, -, b4⟩
  obtain ⟨W5, hW5, B5⟩ : ∃ W5, w4.alloc (.cells #[.int .i64 D.kind, .int .i64 D.view, .int .i64 D.seq, .int .i64 D.client, .int .i64 D.stamp, .string D.digest, .string D.text, .slice a0 n0 k0] 56) = W5 ∧ Below w4.heap.size w4 W5 := ⟨_, rfl, by go_grown⟩
  have X5 := (((XL.below b2).below b3).below b4).below B5
  obtain ⟨W6, hW6, X6, _⟩ := setRow_named X5 lightZ
  go_wp2_with ((with_reducible refine st_row (ty := 31) X5 infoLight lightZ_same lightZ_one hW6 ?_ ?_ ?_); rfl; rfl)
  refine bodyPost_ret (v := .tuple #[.agg lightZ, .int .i64 E]) (verify_results X6 rfl rfl) rfl ?_
  exact ⟨rfl, below_row (chain (chain B3 b4) B5) hW6 (by omega)⟩
/-- Of a book in which nothing is signed no bytes are opened. -/
theorem opnd_empty (s : ByteArray) : (opnd [] s).2.2 ≠ 0 := by
  unfold opnd
  cases h1 : ofSgR s with
  | error er => exact ofSgR_err h1
  | ok m =>
    simp only []
    have e : openR [] m = .error 30 := by
      unfold openR chkB chk
      rw [if_neg]
      simp [isIn, seek]
    rw [e]
    show (30 : Int) ≠ 0
    decide
theorem madeNil_calls (w : World) : Calls Tryz.prog 57 #[.pointer none] w fun e w' => e = .returned (.bool false) ∧ w' = w := by
  go_enter Tryz.func57, Tryz.ntmps57
  go_wp2
  go_ret
  exact ⟨rfl, rfl⟩
set_option maxHeartbeats 1000000 in
set_option maxRecDepth 100000 in
theorem openNil_calls (w : World) :
    Calls Tryz.prog 34 #[.pointer none, .agg #[.int .i64 (-1), .string ⟨#[]⟩, .string ⟨#[]⟩]] w fun e w' => e = .returned (.tuple #[.agg zB8, .int .i64 1]) ∧ Below w.heap.size w w' := by
  obtain ⟨W1, hW1, XM, XR, B1, Z1⟩ : ∃ W1, ((w.alloc (.cells #[.int .i64 (-1), .string ⟨#[]⟩, .string ⟨#[]⟩] 92)).alloc (.cells #[.int .i64 0, .int .i64 0, .int .i64 0, .int .i64 0, .int .i64 0, .string ⟨#[]⟩, .string ⟨#[]⟩, .slice none 0 0] 56)) = W1 ∧ Blk W1 w.heap.size #[.int .i64 (-1), .string ⟨#[]⟩, .string ⟨#[]⟩] 92 ∧ Blk W1 (w.heap.size + 1) zB8 56 ∧ Below w.heap.size w W1 ∧ W1.heap.size = w.heap.size + 2 :=
    ⟨_, rfl, (blk_new _ _ _ _ rfl).alloc _, blk_new _ _ _ _ (by simp), by go_grown, by simp⟩
  have hm := madeNil_calls W1
  go_enter Tryz.func34, Tryz.ntmps34
  go_wp2_with fail
  refine hm.mono ?_
  rintro e w1 ⟨rfl, rfl⟩
  obtain ⟨W3, hW3, X3, _⟩ := setRow_named XR zB8
  go_wp2_with ((with_reducible refine st_row (ty := 56) XR infoB8 zB8_same zB8_one hW3 ?_ ?_ ?_); rfl; rfl)
  refine bodyPost_ret (v := .tuple #[.agg zB8, .int .i64 1]) (openN_results X3 rfl rfl) rfl ?_
  exact ⟨rfl, below_row B1 hW3 (by omega)⟩
set_option maxHeartbeats 1000000 in
set_option maxRecDepth 100000 in
theorem isBookNil_calls (w : World) : Calls Tryz.prog 43 #[.pointer none] w fun e w' => e = .returned (.bool false) ∧ Below w.heap.size w w' := by
  have HO : Hid _ := fun wx => openNil_calls wx
  go_enter Tryz.func43, Tryz.ntmps43
  go_wp2_with fail
  refine (HO.out _).mono ?_
  rintro e w2 ⟨rfl, hb2⟩
  obtain ⟨W3, hW3, X3, B3⟩ : ∃ W3, w2.alloc (.cells #[.int .i64 0, .int .i64 0, .int .i64 0, .int .i64 0, .int .i64 0, .string ⟨#[]⟩, .string ⟨#[]⟩, .slice none 0 0] 56) = W3 ∧ Blk W3 w2.heap.size zB8 56 ∧ Below w2.heap.size w2 W3 :=
    ⟨_, rfl, blk_new _ _ _ _ rfl, by go_grown⟩
  obtain ⟨W4, hW4, X4, _⟩ := setRow_named X3 zB8
  go_wp2_with ((with_reducible refine st_row (ty := 56) X3 infoB8 zB8_same zB8_one hW4 ?_ ?_ ?_); rfl; rfl)
  go_ret
  exact ⟨rfl, below_row (chain hb2 B3) hW4 hb2.size⟩
theorem noTree_calls (w : World) : Calls Tryz.prog 32 #[.pointer none] w fun e w' => e = .returned (.pointer none) ∧ Below w.heap.size w w' := by
  have HB : Hid _ := isBookNil_calls w
  go_enter Tryz.func32, Tryz.ntmps32
  go_wp2_with fail
  refine Calls.mono HB.out ?_
  rintro e w1 ⟨rfl, b1⟩
  go_wp2
  go_ret
  exact ⟨rfl, b1⟩
theorem noBook_calls (w : World) : Calls Tryz.prog 16 #[.pointer none] w fun e w' => e = .returned (.bool false) ∧ Below w.heap.size w w' := by
  have HB : Hid _ := noTree_calls w
  go_enter Tryz.func16, Tryz.ntmps16
  go_wp2_with fail
  refine Calls.mono HB.out ?_
  rintro e w1 ⟨rfl, b1⟩
  go_wp2
  go_ret
  exact ⟨rfl, b1⟩
set_option maxHeartbeats 2000000 in
set_option maxRecDepth 100000 in
theorem verify_nil (cf cc cg cp : Int) (key s : ByteArray) (w : World) :
    Calls Tryz.prog 6 #[.agg #[.int .i64 cf, .int .i64 cc, .int .i64 cg, .int .i64 cp], .pointer none, .string key, .string s] w fun e w' => e = .returned (.tuple #[.agg lightZ, .int .i64 1]) ∧ Below w.heap.size w w' := by
  cases hF : fitsB cf cc cg cp with
  | false => exact verify_unfit cf cc cg cp _ key s w hF
  | true =>
    obtain ⟨W1, hW1, XC, XL, B1, Z1⟩ := verify_boxes w cf cc cg cp
    have HF : Hid _ := fun wx => fits_calls cf cc cg cp wx
    rw [hF] at HF
    have HI : Hid _ := fun wx => noBook_calls wx
    have hGi := infoCfg cf cc cg cp
    have HZ1 : Hid _ := Z1
    clear Z1
    go_enter Tryz.func6, Tryz.ntmps6
    go_wp2_with ((with_reducible refine rd_row (ty := 23) XC Tryz.underlying23 rfl hGi ?_ ?_); rfl)
    refine (HF.out _).mono ?_
    rintro e w2 ⟨rfl, b2⟩
    go_wp2_with fail
    refine (HI.out _).mono ?_
    rintro e w3 ⟨rfl, b3⟩
    have X3 := (XL.below b2).below b3
    obtain ⟨W4, hW4, X4, _⟩ := setRow_named X3 lightZ
    go_wp2_with ((with_reducible refine st_row (ty := 31) X3 infoLight lightZ_same lightZ_one hW4 ?_ ?_ ?_); rfl; rfl)
    refine bodyPost_ret (v := .tuple #[.agg lightZ, .int .i64 1]) (verify_results X4 rfl rfl) rfl ?_
    exact ⟨rfl, below_row (chain (chain B1 b2) b3) hW4 (by omega)⟩
/-- No client where the consortium, the number or the book may not be. -/
theorem new_bad (cf cc cg cp id : Int) (w : World) (h : Book w p b x y T S) (hS : S.length < 1000000) (hB : ¬ (fitsB cf cc cg cp = true ∧ 0 ≤ id ∧ id < cc)) :
    Calls Tryz.prog 5 #[.agg #[.int .i64 cf, .int .i64 cc, .int .i64 cg, .int .i64 cp], .int .i64 id, .pointer (some ⟨p, 0, none⟩)] w fun e w' => e = .returned (.tuple #[.pointer none, .int .i64 1]) ∧ Below w.heap.size w w' := by
  obtain ⟨W1, hW1, X1, B1⟩ : ∃ W1, w.alloc (.cells #[.int .i64 cf, .int .i64 cc, .int .i64 cg, .int .i64 cp] 23) = W1 ∧ Blk W1 w.heap.size #[.int .i64 cf, .int .i64 cc, .int .i64 cg, .int .i64 cp] 23 ∧ Below w.heap.size w W1 :=
    ⟨_, rfl, blk_new _ _ _ _ rfl, by go_grown⟩
  have HF : Hid _ := fun wx => fits_calls cf cc cg cp wx
  have hGi := infoCfg cf cc cg cp
  cases hF : fitsB cf cc cg cp with
  | false =>
    rw [hF] at HF
    go_enter Tryz.func5, Tryz.ntmps5
    go_wp2_with ((with_reducible refine rd_row (ty := 23) X1 Tryz.underlying23 rfl hGi ?_ ?_); rfl)
    refine (HF.out _).mono ?_
    rintro e w2 ⟨rfl, b2⟩
    go_wp2
    go_ret2
    exact ⟨rfl, chain B1 b2⟩
  | true =>
    rw [hF] at HF
    by_cases h0 : id < 0
    · have d0 : decide (id < 0) = true := decide_eq_true h0
      go_enter Tryz.func5, Tryz.ntmps5
      go_wp2_with ((with_reducible refine rd_row (ty := 23) X1 Tryz.underlying23 rfl hGi ?_ ?_); rfl)
      refine (HF.out _).mono ?_
      rintro e w2 ⟨rfl, b2⟩
      go_wp2
      go_ret2
      exact ⟨rfl, chain B1 b2⟩
    · have d0 : decide (id < 0) = false := decide_eq_false h0
      have d1 : decide (cc ≤ id) = true := decide_eq_true (by
        rcases Int.lt_or_le id cc with h1 | h1
        · exact absurd ⟨hF, by omega, h1⟩ hB
        · exact h1)
      go_enter Tryz.func5, Tryz.ntmps5
      go_wp2_with ((with_reducible refine rd_row (ty := 23) X1 Tryz.underlying23 rfl hGi ?_ ?_); rfl)
      refine (HF.out _).mono ?_
      rintro e w2 ⟨rfl, b2⟩
      have X2 := X1.below b2
      have c1 : w2.cell? ⟨w.heap.size, 1, none⟩ = some (.int .i64 cc) := X2.cell rfl
      go_wp2
      go_ret2
      exact ⟨rfl, chain B1 b2⟩
theorem new_nil (cf cc cg cp id : Int) (w : World) :
    Calls Tryz.prog 5 #[.agg #[.int .i64 cf, .int .i64 cc, .int .i64 cg, .int .i64 cp], .int .i64 id, .pointer none] w fun e w' => e = .returned (.tuple #[.pointer none, .int .i64 1]) ∧ Below w.heap.size w w' := by
  obtain ⟨W1, hW1, X1, B1⟩ : ∃ W1, w.alloc (.cells #[.int .i64 cf, .int .i64 cc, .int .i64 cg, .int .i64 cp] 23) = W1 ∧ Blk W1 w.heap.size #[.int .i64 cf, .int .i64 cc, .int .i64 cg, .int .i64 cp] 23 ∧ Below w.heap.size w W1 :=
    ⟨_, rfl, blk_new _ _ _ _ rfl, by go_grown⟩
  have HF : Hid _ := fun wx => fits_calls cf cc cg cp wx
  have hGi := infoCfg cf cc cg cp
  have HI : Hid _ := fun wx => noBook_calls wx
  cases hF : fitsB cf cc cg cp with
  | false =>
    rw [hF] at HF
    go_enter Tryz.func5, Tryz.ntmps5
    go_wp2_with ((with_reducible refine rd_row (ty := 23) X1 Tryz.underlying23 rfl hGi ?_ ?_); rfl)
    refine (HF.out _).mono ?_
    rintro e w2 ⟨rfl, b2⟩
    go_wp2
    go_ret2
    exact ⟨rfl, chain B1 b2⟩
  | true =>
    rw [hF] at HF
    by_cases h0 : id < 0
    · have d0 : decide (id < 0) = true := decide_eq_true h0
      go_enter Tryz.func5, Tryz.ntmps5
      go_wp2_with ((with_reducible refine rd_row (ty := 23) X1 Tryz.underlying23 rfl hGi ?_ ?_); rfl)
      refine (HF.out _).mono ?_
      rintro e w2 ⟨rfl, b2⟩
      go_wp2
      go_ret2
      exact ⟨rfl, chain B1 b2⟩
    · have d0 : decide (id < 0) = false := decide_eq_false h0
      by_cases h1 : cc ≤ id
      · have d1 : decide (cc ≤ id) = true := decide_eq_true h1
        go_enter Tryz.func5, Tryz.ntmps5
        go_wp2_with ((with_reducible refine rd_row (ty := 23) X1 Tryz.underlying23 rfl hGi ?_ ?_); rfl)
        refine (HF.out _).mono ?_
        rintro e w2 ⟨rfl, b2⟩
        have X2 := X1.below b2
        have c1 : w2.cell? ⟨w.heap.size, 1, none⟩ = some (.int .i64 cc) := X2.cell rfl
        go_wp2
        go_ret2
        exact ⟨rfl, chain B1 b2⟩
      · have d1 : decide (cc ≤ id) = false := decide_eq_false h1
        go_enter Tryz.func5, Tryz.ntmps5
        go_wp2_with ((with_reducible refine rd_row (ty := 23) X1 Tryz.underlying23 rfl hGi ?_ ?_); rfl)
        refine (HF.out _).mono ?_
        rintro e w2 ⟨rfl, b2⟩
        have X2 := X1.below b2
        have c1 : w2.cell? ⟨w.heap.size, 1, none⟩ = some (.int .i64 cc) := X2.cell rfl
        go_wp2_with fail
        refine (HI.out _).mono ?_
        rintro e w3 ⟨rfl, b3⟩
        go_wp2
        go_ret2
        exact ⟨rfl, chain (chain B1 b2) b3⟩
theorem nobody_made (w : World) : Calls Tryz.prog 22 #[.pointer none] w fun e w' => e = .returned (.bool false) ∧ w' = w := by
  go_enter Tryz.func22, Tryz.ntmps22
  go_wp2
  go_ret
  exact ⟨rfl, rfl⟩
theorem nobody_waits (w : World) : Calls Tryz.prog 10 #[.pointer none] w fun e w' => e = .returned (.bool false) ∧ w' = w := by
  have HM : Hid _ := nobody_made w
  go_enter Tryz.func10, Tryz.ntmps10
  go_wp2_with fail
  refine Calls.mono HM.out ?_
  rintro e w2 ⟨rfl, rfl⟩
  go_wp2
  go_ret
  exact ⟨rfl, rfl⟩
theorem nobody_receive (s : ByteArray) (w : World) : Calls Tryz.prog 9 #[.pointer none, .string s] w fun e w' => e = .returned (.bool false) ∧ w' = w := by
  have HM : Hid _ := nobody_waits w
  go_enter Tryz.func9, Tryz.ntmps9
  go_wp2_with fail
  refine Calls.mono HM.out ?_
  rintro e w2 ⟨rfl, rfl⟩
  go_wp2
  go_ret
  exact ⟨rfl, rfl⟩
theorem nobody_answers (w : World) : Calls Tryz.prog 11 #[.pointer none] w fun e w' => e = .returned (.slice none 0 0) ∧ w' = w := by
  have HM : Hid _ := nobody_made w
  go_enter Tryz.func11, Tryz.ntmps11
  go_wp2_with fail
  refine Calls.mono HM.out ?_
  rintro e w2 ⟨rfl, rfl⟩
  go_wp2
  go_ret
  exact ⟨rfl, rfl⟩
theorem nobody_tick (w : World) : Calls Tryz.prog 12 #[.pointer none] w fun e w' => e = .returned (.slice none 0 0) ∧ w' = w := by
  have HM : Hid _ := nobody_waits w
  go_enter Tryz.func12, Tryz.ntmps12
  go_wp2_with fail
  refine Calls.mono HM.out ?_
  rintro e w2 ⟨rfl, rfl⟩
  go_wp2
  go_ret
  exact ⟨rfl, rfl⟩
theorem nobody_request (s : ByteArray) (w : World) : Calls Tryz.prog 7 #[.pointer none, .string s] w fun e w' => e = .returned (.tuple #[.slice none 0 0, .int .i64 1]) ∧ w' = w := by
  have HM : Hid _ := nobody_made w
  go_enter Tryz.func7, Tryz.ntmps7
  go_wp2_with fail
  refine Calls.mono HM.out ?_
  rintro e w2 ⟨rfl, rfl⟩
  go_wp2
  go_ret2
  exact ⟨rfl, rfl⟩
theorem nobody_ask (s : ByteArray) (w : World) : Calls Tryz.prog 8 #[.pointer none, .string s] w fun e w' => e = .returned (.tuple #[.slice none 0 0, .int .i64 1]) ∧ w' = w := by
  have HM : Hid _ := nobody_made w
  go_enter Tryz.func8, Tryz.ntmps8
  go_wp2_with fail
  refine Calls.mono HM.out ?_
  rintro e w2 ⟨rfl, rfl⟩
  go_wp2
  go_ret2
  exact ⟨rfl, rfl⟩
end Go.Proofs.YtifbebomhhfaeaaGreat
