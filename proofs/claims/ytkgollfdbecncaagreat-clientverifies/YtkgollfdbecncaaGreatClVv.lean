/- Verify where it refuses ahead of a proof; what there is not. -/
import Derived.Test.YtkgollfdbecncaaGreatClJ
import Derived.Test.YtkgollfdbecncaaGreatAuQ
import Derived.Test.YtkgollfdbecncaaGreatRefFT
namespace Go.Proofs.YtkgollfdbecncaaGreat
open Go.RowKit
set_option linter.unusedSimpArgs false
set_option linter.unusedVariables false

variable {p b x y : Nat} {T : List ByteArray} {S : List (Int × ByteArray)}
def lightZ : Array Value := #[.int .i64 0, .string ⟨#[]⟩, .bool false]
theorem infoLight : (Tryz.prog.info? 31).map (·.size) = some lightZ.size := by kernel_rfl
theorem lightZ_one : lightZ.all (·.oneCell') = true := by simp [lightZ, Value.oneCell']
theorem lightZ_same : lightZ.size = lightZ.size := rfl
theorem verify_results {w' : World} {c0 c1 c2 v : Value} {r : Nat} (X : Blk w' r #[c0, c1, c2] 31) {t : Array Value} (h1 : t.getD 8 undef = .pointer (some ⟨r, 0, none⟩)) (h2 : t.getD 9 undef = v) :
    (results Tryz.f6 t).run Tryz.prog w' = .ok (.tuple #[.agg #[c0, c1, c2], v]) w' := by
  have a0 := X.cell (o := 0) rfl
  have a1 := X.cell (o := 1) rfl
  have a2 := X.cell (o := 2) rfl
  simp only [Array.getD_eq_getD_getElem?] at h1 h2
  simp [results, Tryz.results6, go_sem, h1, h2, a0, a1, a2]
/-- The two boxes that Verify opens with. -/
theorem verify_boxes (w : World) (cf cc cg cp : Int) : ∃ W1, (w.alloc (.cells #[.int .i64 cf, .int .i64 cc, .int .i64 cg, .int .i64 cp] 28)).alloc (.cells #[.int .i64 0, .string ⟨#[]⟩, .bool false] 31) = W1 ∧ Blk W1 w.heap.size #[.int .i64 cf, .int .i64 cc, .int .i64 cg, .int .i64 cp] 28 ∧ Blk W1 (w.heap.size + 1) lightZ 31 ∧ Below w.heap.size w W1 ∧ W1.heap.size = w.heap.size + 2 :=
  ⟨_, rfl, (blk_new _ _ _ _ rfl).alloc _, blk_new _ _ _ _ (by simp), by go_grown, by simp⟩
theorem infoCfg (cf cc cg cp : Int) : (Tryz.prog.info? 28).map (·.size) = some (#[.int .i64 cf, .int .i64 cc, .int .i64 cg, .int .i64 cp] : Array Value).size := by kernel_rfl

set_option maxHeartbeats 2000000 in
set_option maxRecDepth 100000 in
theorem verify_unfit (cf cc cg cp : Int) (bv : Value) (key s : ByteArray) (w : World) (hF : fitsB cf cc cg cp = false) :
    Calls Tryz.prog 6 #[.agg #[.int .i64 cf, .int .i64 cc, .int .i64 cg, .int .i64 cp], bv, .string key, .string s] w fun e w' => e = .returned (.tuple #[.agg lightZ, .int .i64 1]) ∧ Below w.heap.size w w' := by
  obtain ⟨W1, hW1, XC, XL, B1, Z1⟩ := verify_boxes w cf cc cg cp
  have HF : Hid _ := fun wx => fits_calls cf cc cg cp wx
  rw [hF] at HF
  have hGi := infoCfg cf cc cg cp
  have HZ1 : Hid _ := Z1
  clear Z1
  go_enter Tryz.func6, Tryz.ntmps6
  go_wp2_with ((with_reducible refine rd_row (ty := 28) XC Tryz.underlying28 rfl hGi ?_ ?_); rfl)
  refine (HF.out _).mono ?_
  rintro e w2 ⟨rfl, b2⟩
  have X2 := XL.below b2
  obtain ⟨W3, hW3, X3, _⟩ := setRow_named X2 lightZ
  go_wp2_with ((with_reducible refine st_row (ty := 31) X2 infoLight lightZ_same lightZ_one hW3 ?_ ?_ ?_); rfl; rfl)
  refine bodyPost_ret (v := .tuple #[.agg lightZ, .int .i64 1]) (verify_results X3 rfl rfl) rfl ?_
  exact ⟨rfl, below_row (chain B1 b2) hW3 (by omega)⟩

set_option maxHeartbeats 2000000 in
set_option maxRecDepth 100000 in
theorem verify_err (cf cc cg cp : Int) (key s : ByteArray) (w : World) (h : Book w p b x y T S) (hS : S.length < 1000000) (hs : s.size ≤ maxLen) (hF : fitsB cf cc cg cp = true) (hE : (opnd S s).2.2 ≠ 0) :
    Calls Tryz.prog 6 #[.agg #[.int .i64 cf, .int .i64 cc, .int .i64 cg, .int .i64 cp], .pointer (some ⟨p, 0, none⟩), .string key, .string s] w fun e w' => e = .returned (.tuple #[.agg lightZ, .int .i64 (opnd S s).2.2]) ∧ Below w.heap.size w w' := by
  obtain ⟨W1, hW1, XC, XL, B1, Z1⟩ := verify_boxes w cf cc cg cp
  have HF : Hid _ := fun wx => fits_calls cf cc cg cp wx
  rw [hF] at HF
  have HI : Hid _ := fun wx (hx : Book wx p b x y T S) => isBookC_calls wx hx hS
  have HO : Hid _ := fun wx (hx : Book wx p b x y T S) => opened_calls s wx hx hS hs
  have hGi := infoCfg cf cc cg cp
  have HZ1 : Hid _ := Z1
  generalize (opnd S s).1 = f at *
  generalize (opnd S s).2.1 = D at *
  generalize (opnd S s).2.2 = E at *
  unfold Bd.val at HO
  have hd : (E != 0) = true := by simpa using hE
  clear Z1 hE
  go_enter Tryz.func6, Tryz.ntmps6
  go_wp2_with ((with_reducible refine rd_row (ty := 28) XC Tryz.underlying28 rfl hGi ?_ ?_); rfl)
  refine (HF.out _).mono ?_
  rintro e w2 ⟨rfl, b2⟩
  have B2 := chain B1 b2
  go_wp2_with fail
  refine (HI.out _ (h.below B2)).mono ?_
  rintro e w3 ⟨rfl, b3⟩
  have B3 := chain B2 b3
  go_wp2_with fail
  refine (HO.out _ (h.below B3)).mono ?_
  rintro e w4 ⟨a0, n0, k0, rfl, -, b4⟩
  obtain ⟨W5, hW5, B5⟩ : ∃ W5, w4.alloc (.cells #[.int .i64 D.kind, .int .i64 D.view, .int .i64 D.seq, .int .i64 D.client, .int .i64 D.stamp, .string D.digest, .string D.text, .slice a0 n0 k0] 24) = W5 ∧ Below w4.heap.size w4 W5 := ⟨_, rfl, by go_grown⟩
  have X5 := (((XL.below b2).below b3).below b4).below B5
  obtain ⟨W6, hW6, X6, _⟩ := setRow_named X5 lightZ
  go_wp2_with ((with_reducible refine st_row (ty := 31) X5 infoLight lightZ_same lightZ_one hW6 ?_ ?_ ?_); rfl; rfl)
  refine bodyPost_ret (v := .tuple #[.agg lightZ, .int .i64 E]) (verify_results X6 rfl rfl) rfl ?_
  exact ⟨rfl, below_row (chain (chain B3 b4) B5) hW6 (by omega)⟩
/-- Of a book in which nothing is signed no bytes are opened. -/
theorem opnd_empty (s : ByteArray) : (opnd [] s).2.2 ≠ 0 := by
  unfold opnd
  cases h1 : ofSgR s with
  | error er => exact ofSgR_err h1
  | ok m =>
    simp only []
    have e : openR [] m = .error 30 := by
      unfold openR chkB chk
      rw [if_neg]
      simp [isIn, seek]
    rw [e]
    show (30 : Int) ≠ 0
    decide
end Go.Proofs.YtkgollfdbecncaaGreat

namespace Go.Proofs.YtkgollfdbecncaaGreat
open Go.RowKit
set_option linter.unusedSimpArgs false
set_option linter.unusedVariables false

variable {p b x y : Nat} {T : List ByteArray} {S : List (Int × ByteArray)}
/-- Verify's walk up to the body that was opened. -/
theorem light_eq (w : World) : (binOp .eql 31 (.agg #[.int .i64 0, .string ⟨#[]⟩, .bool false]) (.agg #[.int .i64 0, .string ⟨#[]⟩, .bool false])).run Tryz.prog w = .ok (.bool true) w := by kernel_rfl
set_option maxHeartbeats 2000000 in
set_option maxRecDepth 100000 in
theorem verify_kind (cf cc cg cp : Int) (key s : ByteArray) (w : World) (h : Book w p b x y T S) (hS : S.length < 1000000) (hs : s.size ≤ maxLen) (hF : fitsB cf cc cg cp = true) (hE : (opnd S s).2.2 = 0) (hk : ¬ (opnd S s).2.1.kind = 13) :
    Calls Tryz.prog 6 #[.agg #[.int .i64 cf, .int .i64 cc, .int .i64 cg, .int .i64 cp], .pointer (some ⟨p, 0, none⟩), .string key, .string s] w fun e w' => e = .returned (.tuple #[.agg lightZ, .int .i64 13]) ∧ Below w.heap.size w w' := by
  obtain ⟨W1, hW1, XC, XL, B1, Z1⟩ := verify_boxes w cf cc cg cp
  have HF : Hid _ := fun wx => fits_calls cf cc cg cp wx
  rw [hF] at HF
  have HI : Hid _ := fun wx (hx : Book wx p b x y T S) => isBookC_calls wx hx hS
  have HO : Hid _ := fun wx (hx : Book wx p b x y T S) => opened_calls s wx hx hS hs
  have hGi := infoCfg cf cc cg cp
  have HZ1 : Hid _ := Z1
  rw [hE] at HO
  generalize (opnd S s).1 = f at *
  generalize (opnd S s).2.1 = D at *
  unfold Bd.val at HO
  have hd1 : decide (D.kind = 13) = false := decide_eq_false hk
  have hd2 : (D.kind == 13) = false := hd1
  have hd3 : (D.kind != 13) = true := by rw [bne, hd2]; rfl
  clear Z1 hE hk
  go_enter Tryz.func6, Tryz.ntmps6
  go_wp2_with ((with_reducible refine rd_row (ty := 28) XC Tryz.underlying28 rfl hGi ?_ ?_); rfl)
  refine (HF.out _).mono ?_
  rintro e w2 ⟨rfl, b2⟩
  have B2 := chain B1 b2
  go_wp2_with fail
  refine (HI.out _ (h.below B2)).mono ?_
  rintro e w3 ⟨rfl, b3⟩
  have B3 := chain B2 b3
  go_wp2_with fail
  refine (HO.out _ (h.below B3)).mono ?_
  rintro e w4 ⟨a0, n0, k0, rfl, -, b4⟩
  obtain ⟨W5, hW5, XD, B5⟩ : ∃ W5, w4.alloc (.cells #[.int .i64 D.kind, .int .i64 D.view, .int .i64 D.seq, .int .i64 D.client, .int .i64 D.stamp, .string D.digest, .string D.text, .slice a0 n0 k0] 24) = W5 ∧ Blk W5 w4.heap.size (D.cells (.slice a0 n0 k0)) 24 ∧ Below w4.heap.size w4 W5 := ⟨_, rfl, blk_new _ _ _ _ rfl, by go_grown⟩
  have X5 := (((XL.below b2).below b3).below b4).below B5
  have c0 : W5.cell? ⟨w4.heap.size, 0, none⟩ = some (.int .i64 D.kind) := XD.cell rfl
  obtain ⟨W6, hW6, X6, _⟩ := setRow_named X5 lightZ
  go_wp2_with ((with_reducible refine st_row (ty := 31) X5 infoLight lightZ_same lightZ_one hW6 ?_ ?_ ?_); rfl; rfl)
  refine bodyPost_ret (v := .tuple #[.agg lightZ, .int .i64 13]) (verify_results X6 rfl rfl) rfl ?_
  exact ⟨rfl, below_row (chain (chain B3 b4) B5) hW6 (by omega)⟩
set_option maxHeartbeats 4000000 in
set_option maxRecDepth 100000 in
theorem verify_few (cf cc cg cp : Int) (key s : ByteArray) (w : World) (h : Book w p b x y T S) (hS : S.length < 1000000) (hs : s.size ≤ maxLen) (hF : fitsB cf cc cg cp = true) (hcf : 0 ≤ cf ∧ cf ≤ 4) (hE : (opnd S s).2.2 = 0) (hk : (opnd S s).2.1.kind = 13) (hl : (opnd S s).2.1.list.length < 1000000) (hz : ∀ m ∈ (opnd S s).2.1.list, m.body.size ≤ maxLen ∧ m.sig.size ≤ maxLen)
    (hq : ((qset (vote S 5 0 (opnd S s).2.1.seq (opnd S s).2.1.digest) (3 * cf + 1) (opnd S s).2.1.list).length : Int) ≤ cf) :
    Calls Tryz.prog 6 #[.agg #[.int .i64 cf, .int .i64 cc, .int .i64 cg, .int .i64 cp], .pointer (some ⟨p, 0, none⟩), .string key, .string s] w fun e w' => e = .returned (.tuple #[.agg lightZ, .int .i64 30]) ∧ Below w.heap.size w w' := by
  obtain ⟨W1, hW1, XC, XL, B1, Z1⟩ := verify_boxes w cf cc cg cp
  have HF : Hid _ := fun wx => fits_calls cf cc cg cp wx
  rw [hF] at HF
  have HI : Hid _ := fun wx (hx : Book wx p b x y T S) => isBookC_calls wx hx hS
  have HO : Hid _ := fun wx (hx : Book wx p b x y T S) => opened_calls s wx hx hS hs
  have HSz : Hid _ := fun wx => size_calls cf cc cg cp wx hcf.1 (by omega)
  have hGi := infoCfg cf cc cg cp
  have HZ1 : Hid _ := Z1
  rw [hE] at HO
  generalize (opnd S s).1 = f at *
  generalize (opnd S s).2.1 = D at *
  unfold Bd.val at HO
  have hd1 : decide (D.kind = 13) = true := decide_eq_true hk
  have hd2 : (D.kind == 13) = true := hd1
  have hd3 : (D.kind != 13) = false := by rw [bne, hd2]; rfl
  have HQ0 : Hid _ := fun wx (hx : Book wx p b x y T S) lv (hs2 : Sgs wx lv D.list) => quorum_calls lv D.list 5 0 D.seq D.digest (3 * cf + 1) wx hx hS hs2 hl
  generalize hN : (qset (vote S 5 0 D.seq D.digest) (3 * cf + 1) D.list).length = N at *
  have hdq : decide ((N : Int) ≤ cf) = true := decide_eq_true hq
  have HZZ : Hid _ := hz
  clear Z1 hE hk hN hz hl
  go_enter Tryz.func6, Tryz.ntmps6
  go_wp2_with ((with_reducible refine rd_row (ty := 28) XC Tryz.underlying28 rfl hGi ?_ ?_); rfl)
  refine (HF.out _).mono ?_
  rintro e w2 ⟨rfl, b2⟩
  have B2 := chain B1 b2
  go_wp2_with fail
  refine (HI.out _ (h.below B2)).mono ?_
  rintro e w3 ⟨rfl, b3⟩
  have B3 := chain B2 b3
  go_wp2_with fail
  refine (HO.out _ (h.below B3)).mono ?_
  rintro e w4 ⟨a0, n0, k0, rfl, how, b4⟩
  have B4 := chain B3 b4
  obtain ⟨W5, hW5, XD, B5⟩ : ∃ W5, w4.alloc (.cells #[.int .i64 D.kind, .int .i64 D.view, .int .i64 D.seq, .int .i64 D.client, .int .i64 D.stamp, .string D.digest, .string D.text, .slice a0 n0 k0] 24) = W5 ∧ Blk W5 w4.heap.size (D.cells (.slice a0 n0 k0)) 24 ∧ Below w4.heap.size w4 W5 := ⟨_, rfl, blk_new _ _ _ _ rfl, by go_grown⟩
  have X5 := (((XL.below b2).below b3).below b4).below B5
  have XC5 := (((XC.below b2).below b3).below b4).below B5
  have hsg : Sgs W5 (.slice a0 n0 k0) D.list := Sgs.below (sgs_of_own how HZZ.out) B5
  have K5 := h.below (chain B4 B5)
  have HQ : Hid (∀ y : BW W5, _) := fun y : BW W5 => HQ0.out y.w (K5.below y.h) (.slice a0 n0 k0) (hsg.below y.h)
  have c0 : W5.cell? ⟨w4.heap.size, 0, none⟩ = some (.int .i64 D.kind) := XD.cell rfl
  have y2 := fun y : BW W5 => y.cell (show W5.cell? ⟨w4.heap.size, 2, none⟩ = some (.int .i64 D.seq) from XD.cell rfl)
  have y5 := fun y : BW W5 => y.cell (show W5.cell? ⟨w4.heap.size, 5, none⟩ = some (.string D.digest) from XD.cell rfl)
  have y7 := fun y : BW W5 => y.cell (show W5.cell? ⟨w4.heap.size, 7, none⟩ = some (.slice a0 n0 k0) from XD.cell rfl)
  have v0 := fun y : BW W5 => y.cell (show W5.cell? ⟨w.heap.size, 0, none⟩ = some (.int .i64 cf) from XC5.cell rfl)
  have v1 := fun y : BW W5 => y.cell (show W5.cell? ⟨w.heap.size, 1, none⟩ = some (.int .i64 cc) from XC5.cell rfl)
  have v2 := fun y : BW W5 => y.cell (show W5.cell? ⟨w.heap.size, 2, none⟩ = some (.int .i64 cg) from XC5.cell rfl)
  have v3 := fun y : BW W5 => y.cell (show W5.cell? ⟨w.heap.size, 3, none⟩ = some (.int .i64 cp) from XC5.cell rfl)
  have hne := bw_some W5
  have HB5 : Hid _ := chain B4 B5
  clear HQ0 how hsg K5 B2 B3 B4 b2 b3 b4 B5 XD XC5
  go_wp2_with fail
  refine wp_region_below (by kernel_rfl) (by kernel_rfl) ?_
  iterate 13 (quiet_step (first
    | (go_at_call 18; exact BW.call _ (HSz.out _))
    | (go_at_call 17; exact BW.call _ (HQ.out _))))
  refine wpQuiet_nil ?_
  rintro w7 ⟨⟨_, b7⟩, rfl⟩
  have X7 := X5.below b7
  obtain ⟨W8, hW8, X8, _⟩ := setRow_named X7 lightZ
  go_wp2_with ((with_reducible refine st_row (ty := 31) X7 infoLight lightZ_same lightZ_one hW8 ?_ ?_ ?_); rfl; rfl)
  refine bodyPost_ret (v := .tuple #[.agg lightZ, .int .i64 30]) (verify_results X8 rfl rfl) rfl ?_
  exact ⟨rfl, below_row (chain HB5.out b7) hW8 (by omega)⟩
theorem qset_none (g : Sg → Bool) (below : Int) (l : List Sg) (h : ∀ m, g m = false) : qset g below l = [] := by
  unfold qset
  induction l with
  | nil => rfl
  | cons m l ih =>
    rw [List.foldl_cons]
    have e : qstep g below [] m = [] := by unfold qstep; rw [if_neg]; intro h2; rw [h m] at h2; exact absurd h2.2.2.2 (by decide)
    rw [e]
    exact ih
/-- Of a book in which one body alone is signed, which is no checkpoint, nothing is a vote for one. -/
theorem vote_none (who : Int) (d : Bd) (he : byE d = 0) (hk : ¬ d.kind = 5) (view seq : Int) (dg : ByteArray) (m : Sg) : vote [(who, byS d)] 5 view seq dg m = false := by
  unfold vote
  cases ho : openR [(who, byS d)] m with
  | error er => rfl
  | ok d2 =>
    have hd : d2 = d := by
      unfold openR at ho
      split at ho
      · rename_i hc
        unfold chkB chk at hc
        simp only [Bool.and_eq_true] at hc
        have h1 := (isIn_iff _ _).1 hc.2.1
        simp at h1
        rw [h1.2] at ho
        have hok := byE_ok he
        unfold byS at ho
        rw [if_pos he, of_bytes d hok.1 (by omega)] at ho
        exact (Except.ok.inj ho).symm
      · cases ho
    subst hd
    simp [hk]
theorem opnd_made (d : Bd) (he : byE d = 0) : opnd [(2, byS d)] ⟨(sgB (sgM [] 2 d)).toArray⟩ = (2, d, 0) := by
  have h1 := of_sgM [] 2 d (by decide)
  have h2 := open_sgM [] 2 d (by decide) he
  have h3 : note ([] : List (Int × ByteArray)) (2, byS d) = [(2, byS d)] := rfl
  rw [h3] at h2
  unfold opnd
  rw [h1]
  simp only []
  rw [h2]
  rfl
-- THE WALK
theorem light_got {s : ByteArray} {bv : Value} {key : ByteArray} {cf cc cg cp E : Int} {w : World} (h : Calls Tryz.prog 6 #[.agg #[.int .i64 cf, .int .i64 cc, .int .i64 cg, .int .i64 cp], bv, .string key, .string s] w fun e w' => e = .returned (.tuple #[.agg lightZ, .int .i64 E]) ∧ Below w.heap.size w w') :
    ∃ z0 z1 z2, Hid (∀ wx, (binOp .eql 31 (.agg #[.int .i64 z0, .string z1, .bool z2]) (.agg #[.int .i64 0, .string ⟨#[]⟩, .bool false])).run Tryz.prog wx = .ok (.bool true) wx) ∧ Hid (Calls Tryz.prog 6 #[.agg #[.int .i64 cf, .int .i64 cc, .int .i64 cg, .int .i64 cp], bv, .string key, .string s] w fun e w' => e = .returned (.tuple #[.agg #[.int .i64 z0, .string z1, .bool z2], .int .i64 E]) ∧ Below w.heap.size w w') := ⟨0, ⟨#[]⟩, false, light_eq, h⟩
theorem light_all {s : ByteArray} {key : ByteArray} {cf cc cg cp E : Int} {S : List (Int × ByteArray)} (h : ∀ w, Book w p b x y T S → Calls Tryz.prog 6 #[.agg #[.int .i64 cf, .int .i64 cc, .int .i64 cg, .int .i64 cp], .pointer (some ⟨p, 0, none⟩), .string key, .string s] w fun e w' => e = .returned (.tuple #[.agg lightZ, .int .i64 E]) ∧ Below w.heap.size w w') :
    ∃ z0 z1 z2, Hid (∀ wx, (binOp .eql 31 (.agg #[.int .i64 z0, .string z1, .bool z2]) (.agg #[.int .i64 0, .string ⟨#[]⟩, .bool false])).run Tryz.prog wx = .ok (.bool true) wx) ∧ Hid (∀ w, Book w p b x y T S → Calls Tryz.prog 6 #[.agg #[.int .i64 cf, .int .i64 cc, .int .i64 cg, .int .i64 cp], .pointer (some ⟨p, 0, none⟩), .string key, .string s] w fun e w' => e = .returned (.tuple #[.agg #[.int .i64 z0, .string z1, .bool z2], .int .i64 E]) ∧ Below w.heap.size w w') := ⟨0, ⟨#[]⟩, false, light_eq, h⟩
set_option maxHeartbeats 8000000 in
set_option maxRecDepth 100000 in
theorem verifies_calls (d : Bd) (lq : Option Addr) (ln lc : Nat) (key raw : ByteArray) (w : World) (h1 : d.digest.size ≤ maxLen) (h2 : d.text.size ≤ maxLen) (h3 : d.list.length * 40 ≤ 140737488351232) (hl : Sgs w (.slice lq ln lc) d.list) (hrz : raw.size ≤ 140737488351232) : Calls Tryz.prog 3 #[d.val (.slice lq ln lc), .string key, .string raw] w fun e w' => e = .returned (.bool true) ∧ Below w.heap.size w w' := by
  obtain ⟨W0, hW0, X0, B0, Z0⟩ : ∃ W0, w.alloc (.cells #[.int .i64 d.kind, .int .i64 d.view, .int .i64 d.seq, .int .i64 d.client, .int .i64 d.stamp, .string d.digest, .string d.text, .slice lq ln lc] 24) = W0 ∧ Blk W0 w.heap.size (d.cells (.slice lq ln lc)) 24 ∧ Below w.heap.size w W0 ∧ W0.heap.size = w.heap.size + 1 := ⟨_, rfl, blk_new _ _ _ _ rfl, by go_grown, by simp⟩
  have HNB : Hid _ := newBook_calls W0
  have HAw : Hid _ := awake_calls
  have HZ0 : Hid _ := Z0
  have HCf : Hid _ := fun wx => config_calls 0 wx
  rw [show (1 : Int) + arn 0 4 = 1 from by decide] at HCf
  have hGi := infoCfg 1 3 2 5
  have hGb := Bd.info d (.slice lq ln lc)
  have HL : Hid _ := hl
  have hrm : raw.size ≤ maxLen := by unfold maxLen; omega
  have HRf : Hid _ := fun wx => ofSigned_ref raw wx hrm
  clear Z0 hl
  unfold Bd.val
  go_enter Tryz.func3, Tryz.ntmps3
  go_wp2_with fail
  refine Calls.mono HNB.out ?_
  rintro e w1 ⟨p, b, x, y, rfl, K1, b1, hp, hb, hx, hy⟩
  go_wp2_with fail
  refine (HCf.out _).mono ?_
  rintro e w2 ⟨rfl, b2⟩
  obtain ⟨W3, hW3, XC3, B3⟩ : ∃ W3, w2.alloc (.cells #[.int .i64 1, .int .i64 3, .int .i64 2, .int .i64 5] 28) = W3 ∧ Blk W3 w2.heap.size #[.int .i64 1, .int .i64 3, .int .i64 2, .int .i64 5] 28 ∧ Below w2.heap.size w2 W3 := ⟨_, rfl, blk_new _ _ _ _ rfl, by go_grown⟩
  have K3 := (K1.below b2).below B3
  have BB3 := chain (chain (chain B0 b1) b2) B3
  have X3 := ((X0.below b1).below b2).below B3
  obtain ⟨z0, z1, z2, HZq, HVe⟩ := light_got (verify_err 1 3 2 5 key raw W3 K3 (by decide) hrm (by decide) (opnd_empty raw))
  obtain ⟨E, hE⟩ : ∃ E, (opnd [] raw).2.2 = E := ⟨_, rfl⟩
  rw [hE] at HVe
  have HE : Hid _ := hE
  clear HNB HCf hE X0
  go_wp2_with ((with_reducible refine rd_row (ty := 28) XC3 Tryz.underlying28 rfl hGi ?_ ?_); rfl)
  refine Calls.mono HVe.out ?_
  rintro e w4 ⟨rfl, b4⟩
  obtain ⟨W5, hW5, XL5, B5⟩ : ∃ W5, w4.alloc (.cells #[.int .i64 z0, .string z1, .bool z2] 31) = W5 ∧ Blk W5 w4.heap.size #[.int .i64 z0, .string z1, .bool z2] 31 ∧ Below w4.heap.size w4 W5 := ⟨_, rfl, blk_new _ _ _ _ rfl, by go_grown⟩
  have K5 := (K3.below b4).below B5
  have BB5 := chain (chain BB3 b4) B5
  have X5 := (X3.below b4).below B5
  have XC5 := (XC3.below b4).below B5
  obtain ⟨lb, hlb⟩ : ∃ lb, w4.heap.size = lb := ⟨_, rfl⟩
  have HLB : Hid (w2.heap.size < lb ∧ w.heap.size < lb ∧ lb < W5.heap.size) := by
    show _ ∧ _ ∧ _
    have i1 := XC3.lt
    have i2 := b4.size
    have i3 := X3.lt
    have i4 := XL5.lt
    omega
  rw [hlb] at XL5
  have HLq : Hid _ := hlb
  clear HVe K3 BB3 X3 XC3
  cases hr : ofSgR raw with
  | error er =>
    have hEr : E = er := by rw [← HE.out]; unfold opnd; rw [hr]
    have hne := ofSgR_err hr
    have hd1 : (er != 0) = true := by simpa using hne
    have hd2 : (er == er) = true := by simp
    rw [hr] at HRf
    simp only [sgAns] at HRf
    obtain ⟨sn, sb, sg, HRz⟩ : ∃ sn sb sg, Hid (∀ wx, Calls Tryz.prog 7 #[.string raw] wx fun e w' => e = .returned (.tuple #[.agg #[.int .i64 sn, .string sb, .string sg], .int .i64 er]) ∧ Below wx.heap.size wx w') := ⟨_, _, _, HRf⟩
    subst hEr
    clear HRf hr hne HE
    go_wp2_with fail
    refine (HRz.out _).mono ?_
    rintro e w6 ⟨rfl, b6⟩
    obtain ⟨W7, hW7, B7⟩ : ∃ W7, w6.alloc (.cells #[.int .i64 sn, .string sb, .string sg] 36) = W7 ∧ Below w6.heap.size w6 W7 := ⟨_, rfl, by go_grown⟩
    have L7 := (XL5.below b6).below B7
    have BB7 := chain (chain BB5 b6) B7
    have e0 : W7.cell? ⟨lb, 0, none⟩ = some (.int .i64 z0) := L7.cell rfl
    have e1 : W7.cell? ⟨lb, 1, none⟩ = some (.string z1) := L7.cell rfl
    have e2 : W7.cell? ⟨lb, 2, none⟩ = some (.bool z2) := L7.cell rfl
    have hZq := HZq.out
    go_wp2_with fail
    refine Calls.mono (HAw.out _) ?_
    rintro e w20 ⟨rfl, b20⟩
    go_wp2
    go_ret
    exact ⟨rfl, chain BB7 b20⟩
  | ok m =>
    have hEr : E = 30 := by
      rw [← HE.out]; unfold opnd; rw [hr]
      have e : openR [] m = .error 30 := by
        unfold openR chkB chk
        rw [if_neg]
        simp [isIn, seek]
      simp only []
      rw [e]
    rw [hr] at HRf
    simp only [sgAns] at HRf
    unfold Sg.val at HRf
    subst hEr
    have HCk : Hid _ := fun wx (hx : Book wx p b x y [] []) => bookCheck_calls m.frm m.body m.sig wx hx (by decide)
    rw [show chkB [] m.frm m.body m.sig = false from by unfold chkB chk; simp [isIn, seek]] at HCk
    clear hr HE
    go_wp2_with fail
    refine (HRf.out _).mono ?_
    rintro e w6 ⟨rfl, b6⟩
    obtain ⟨W6, hW6, M6, B6⟩ : ∃ W6, w6.alloc (.cells #[.int .i64 m.frm, .string m.body, .string m.sig] 36) = W6 ∧ Blk W6 w6.heap.size #[.int .i64 m.frm, .string m.body, .string m.sig] 36 ∧ Below w6.heap.size w6 W6 := ⟨_, rfl, blk_new _ _ _ _ rfl, by go_grown⟩
    have m0 : W6.cell? ⟨w6.heap.size, 0, none⟩ = some (.int .i64 m.frm) := M6.cell rfl
    have m1 : W6.cell? ⟨w6.heap.size, 1, none⟩ = some (.string m.body) := M6.cell rfl
    have m2 : W6.cell? ⟨w6.heap.size, 2, none⟩ = some (.string m.sig) := M6.cell rfl
    have K6 := (K5.below b6).below B6
    go_wp2_with fail
    refine (HCk.out _ K6).mono ?_
    rintro e w7a ⟨rfl, b7a⟩
    have K7 := K6.below b7a
    have bb : Below W5.heap.size W5 w7a := chain (chain b6 B6) b7a
    have BB7 := chain BB5 bb
    have X7 := X5.below bb
    have XC7 := XC5.below bb
    have XL7 := XL5.below bb
    have hSe := seal_calls 2 d lq ln lc w7a K7 (by decide) h1 h2 (by omega) (Sgs.below HL.out BB7)
    have HSe : Hid _ := hSe
    clear hSe HCk HRf M6 m0 m1 m2 K5 BB5 X5 XC5 XL5 K6
    by_cases he : byE d = 0
    · -- SEALED
      have hR : sealR [] 2 d = (sgM [] 2 d, 0) := by unfold sealR; rw [if_pos he]; rfl
      have hRS : sealS [] 2 d = [(2, byS d)] := by unfold sealS signS; rw [if_pos he]; rfl
      rw [hR, hRS] at HSe
      have hok := sgM_ok [] 2 d (by decide)
      have hop := opnd_made d he
      have hri := right_ok (byE_ok he).1
      have HVx : ∃ E2, Hid ((d.kind = 13 → E2 = 30) ∧ (¬ d.kind = 13 → E2 = 13)) ∧ ∀ wx, Book wx p b x y [] [(2, byS d)] → Calls Tryz.prog 6 #[.agg #[.int .i64 1, .int .i64 3, .int .i64 2, .int .i64 5], .pointer (some ⟨p, 0, none⟩), .string key, .string ⟨(sgB (sgM [] 2 d)).toArray⟩] wx fun e w' => e = .returned (.tuple #[.agg lightZ, .int .i64 E2]) ∧ Below wx.heap.size wx w' := by
        by_cases hk : d.kind = 13
        · refine ⟨30, ⟨fun _ => rfl, fun h => absurd hk h⟩, fun wx hx => verify_few 1 3 2 5 key _ wx hx (by simp) (sgB_small [] 2 d (by decide)) (by decide) (by decide) (by rw [hop]) (by rw [hop]; exact hk) (by rw [hop]; show d.list.length < 1000000; omega) (by
            rw [hop]
            intro m hm
            have h5 := List.all_eq_true.1 hri.2.2.2.2.2.2.2.2 m hm
            unfold sgOk at h5
            simp only [Bool.and_eq_true, decide_eq_true_eq] at h5
            unfold maxLen; omega) (by
            rw [hop, qset_none _ _ _ (fun m => vote_none 2 d he (by omega) _ _ _ m)]
            decide)⟩
        · exact ⟨13, ⟨fun h => absurd h hk, fun _ => rfl⟩, fun wx hx => verify_kind 1 3 2 5 key _ wx hx (by simp) (sgB_small [] 2 d (by decide)) (by decide) (by rw [hop]) (by rw [hop]; exact hk)⟩
      obtain ⟨E2, HE2, hVx⟩ := HVx
      obtain ⟨y0, y1, y2, HYq, HVf⟩ := light_all hVx
      have HOn : Hid _ := fun wx => one_ref (sgM [] 2 d) wx hok
      unfold Sg.val at HSe HOn
      generalize sgM [] 2 d = M at *
      generalize [(2, byS d)] = S1 at *
      clear hR hRS hok hop hri hVx
      have HGs : Hid ((Tryz.prog.info? 36).map (·.size) = some (#[.int .i64 M.frm, .string M.body, .string M.sig] : Array Value).size) := infoSg3
      unfold Bd.val at HSe
      go_wp2_with ((with_reducible refine rd_row (ty := 24) X7 Tryz.underlying24 rfl hGb ?_ ?_); rfl)
      refine Calls.mono HSe.out ?_
      rintro e w7 ⟨rfl, K7b, o7⟩
      obtain ⟨W8, hW8, M8, B8⟩ : ∃ W8, w7.alloc (.cells #[.int .i64 M.frm, .string M.body, .string M.sig] 36) = W8 ∧ Blk W8 w7.heap.size #[.int .i64 M.frm, .string M.body, .string M.sig] 36 ∧ Below w7.heap.size w7 W8 := ⟨_, rfl, blk_new _ _ _ _ rfl, by go_grown⟩
      have kp := (Kpt.of_off2 (v := .slice none 0 0) K7 o7).trans (Kpt.of_below B8)
      have K8 := K7b.below B8
      have X08 := kp.blk _ _ _ (by decide) (by simp [Value.ownBlock]) X7
      have XC8 := kp.blk _ _ _ (by decide) (by simp [Value.ownBlock]) XC7
      have XL8 := kp.blk _ _ _ (by decide) (by simp [Value.ownBlock]) XL7
      have BB7b : Below w.heap.size w w7 := o7.below (by have := B0.size; omega) (by have := B0.size; omega) BB7 BB7.size
      have BB8 := chain BB7b B8
      have HNe : Hid (w2.heap.size ≠ lb ∧ w7.heap.size ≠ lb ∧ w.heap.size ≠ lb ∧ w.heap.size ≤ lb) := by
        show _ ∧ _ ∧ _ ∧ _
        have := HLB.out
        have := bb.size
        have := o7.size
        omega
      clear HSe K7 X7 XC7 XL7 BB7 kp BB7b hlb
      go_wp2_with fail
      by_cases hk : d.kind = 13
      · have hE2 : E2 = 30 := HE2.out.1 hk
        subst hE2
        have n1 : (d.kind != 13) = false := by rw [hk]; rfl
        have n2 : decide (d.kind = 13) = true := decide_eq_true hk
        have n3 : (d.kind == 13) = true := n2
        have hYq := HYq.out
        clear hk
        have HSC : Hid (∀ wx, Blk wx w2.heap.size #[.int .i64 1, .int .i64 3, .int .i64 2, .int .i64 5] 28 → Blk wx w7.heap.size #[.int .i64 M.frm, .string M.body, .string M.sig] 36 → (fun wx => wx.cell? ⟨w2.heap.size, 0, none⟩ = some (.int .i64 1) ∧ wx.cell? ⟨w2.heap.size, 1, none⟩ = some (.int .i64 3) ∧ wx.cell? ⟨w2.heap.size, 2, none⟩ = some (.int .i64 2) ∧ wx.cell? ⟨w2.heap.size, 3, none⟩ = some (.int .i64 5) ∧ wx.cell? ⟨w7.heap.size, 0, none⟩ = some (.int .i64 M.frm) ∧ wx.cell? ⟨w7.heap.size, 1, none⟩ = some (.string M.body) ∧ wx.cell? ⟨w7.heap.size, 2, none⟩ = some (.string M.sig)) wx) := fun wx X Y => ⟨X.cell rfl, X.cell rfl, X.cell rfl, X.cell rfl, Y.cell rfl, Y.cell rfl, Y.cell rfl⟩
        refine wp_region_held_drew (S := (fun wx => wx.cell? ⟨w2.heap.size, 0, none⟩ = some (.int .i64 1) ∧ wx.cell? ⟨w2.heap.size, 1, none⟩ = some (.int .i64 3) ∧ wx.cell? ⟨w2.heap.size, 2, none⟩ = some (.int .i64 2) ∧ wx.cell? ⟨w2.heap.size, 3, none⟩ = some (.int .i64 5) ∧ wx.cell? ⟨w7.heap.size, 0, none⟩ = some (.int .i64 M.frm) ∧ wx.cell? ⟨w7.heap.size, 1, none⟩ = some (.string M.body) ∧ wx.cell? ⟨w7.heap.size, 2, none⟩ = some (.string M.sig))) (by kernel_rfl) (HSC.out _ XC8.drew M8.drew) (fun hS => ?_)
        refine wpAnyH_take (i := 0) (v := (.agg #[.int .i64 1, .int .i64 3, .int .i64 2, .int .i64 5])) rfl (by kernel_rfl) (by kernel_rfl) (by kernel_rfl) (fun _ _ _ h => h) (Or.inl ⟨by kernel_rfl, fun w hS => by obtain ⟨s0, s1, s2, s3, s4, s5, s6⟩ := hS; go_simp⟩) hS ?_
        refine wpAnyH_take (i := 1) (v := (.pointer (some ⟨p, 0, none⟩))) rfl (by kernel_rfl) (by kernel_rfl) (by kernel_rfl) (fun _ _ _ h => h) (Or.inl ⟨by kernel_rfl, fun w hS => by obtain ⟨s0, s1, s2, s3, s4, s5, s6⟩ := hS; go_simp⟩) hS ?_
        refine wpAnyH_take (i := 2) (v := (.string key)) rfl (by kernel_rfl) (by kernel_rfl) (by kernel_rfl) (fun _ _ _ h => h) (Or.inl ⟨by kernel_rfl, fun w hS => by obtain ⟨s0, s1, s2, s3, s4, s5, s6⟩ := hS; go_simp⟩) hS ?_
        refine wpAnyH_take (i := 3) (v := (.agg #[.int .i64 M.frm, .string M.body, .string M.sig])) rfl (by kernel_rfl) (by kernel_rfl) (by kernel_rfl) (fun _ _ _ h => h) (Or.inl ⟨by kernel_rfl, fun w hS => by obtain ⟨s0, s1, s2, s3, s4, s5, s6⟩ := hS; go_simp⟩) hS ?_
        refine wpAnyH_ready (rs := [4]) (by kernel_rfl) (by simp) ?_
        refine AllReadyH.cons rfl (fun K hK => ?_) AllReadyH.nil
        go_simp
        refine Calls.mono (HOn.out _) ?_
        rintro e w9 ⟨rfl, b9⟩
        have b9' : Below W8.heap.size W8 w9 := chain (Below.refl _ _).drew b9
        have XC9 := XC8.below b9'
        have M9 := M8.below b9'
        have L9 := XL8.below b9'
        have X9 := X08.below b9'
        have K9 := K8.below b9'
        have BB9 := chain BB8 b9'
        refine hK.out _ _ (HSC.out _ XC9 M9) (fun hS => ?_)
        clear hK
        refine wpAnyH_ready (rs := [5]) (by kernel_rfl) (by simp) ?_
        refine AllReadyH.cons rfl (fun K hK => ?_) AllReadyH.nil
        go_simp
        refine Calls.mono (HVf.out _ K9) ?_
        rintro e w10 ⟨rfl, b10⟩
        have XC10 := XC9.below b10
        have M10 := M9.below b10
        have L10 := L9.below b10
        have X10 := X9.below b10
        have BB10 := chain BB9 b10
        refine hK.out _ _ (HSC.out _ XC10 M10) (fun hS => ?_)
        clear hK
        refine wpAnyH_take (i := 6) (v := (.tuple #[.agg #[.int .i64 y0, .string y1, .bool y2], .int .i64 30])) rfl (by kernel_rfl) (by kernel_rfl) (by kernel_rfl) (fun _ _ _ h => h) (Or.inl ⟨by kernel_rfl, fun w hS => by obtain ⟨s0, s1, s2, s3, s4, s5, s6⟩ := hS; go_simp⟩) hS ?_
        refine wpAnyH_take (i := 7) (v := (.agg #[.int .i64 y0, .string y1, .bool y2])) rfl (by kernel_rfl) (by kernel_rfl) (by kernel_rfl) (fun _ _ _ h => h) (Or.inl ⟨by kernel_rfl, fun w hS => by obtain ⟨s0, s1, s2, s3, s4, s5, s6⟩ := hS; go_simp⟩) hS ?_
        refine wpAnyH_take (i := 8) (v := (.int .i64 30)) rfl (by kernel_rfl) (by kernel_rfl) (by kernel_rfl) (fun _ _ _ h => h) (Or.inl ⟨by kernel_rfl, fun w hS => by obtain ⟨s0, s1, s2, s3, s4, s5, s6⟩ := hS; go_simp⟩) hS ?_
        obtain ⟨W11, hW11, L11, _⟩ := setRow_named L10 #[.int .i64 y0, .string y1, .bool y2]
        have XC11 := blk_row XC10 hW11 HNe.out.1
        have M11 := blk_row M10 hW11 HNe.out.2.1
        have X11 := blk_row X10 hW11 HNe.out.2.2.1
        have BB11 := below_row BB10 hW11 HNe.out.2.2.2
        have HYi : Hid ((Tryz.prog.info? 31).map (·.size) = some (#[.int .i64 y0, .string y1, .bool y2] : Array Value).size) := infoLight
        refine wpAnyH_ready (rs := [9]) (by kernel_rfl) (by simp) ?_
        refine readyH_rowC 9 rfl (ty := 31) (x := .tmp 9) (y := .tmp 71) rfl rfl rfl (lb) #[.int .i64 y0, .string y1, .bool y2] (by kernel_rfl) (by kernel_rfl) 31 #[.int .i64 z0, .string z1, .bool z2] L10 HYi.out rfl (by simp [Value.oneCell']) (by rw [hW11]; exact HSC.out _ XC11 M11) (fun hS => ?_)
        rw [hW11]
        rw [hW11] at hS
        refine wpAnyH_take (i := 10) (v := (.int .i64 30)) rfl (by kernel_rfl) (by kernel_rfl) (by kernel_rfl) (fun _ _ _ h => h) (Or.inl ⟨by kernel_rfl, fun w hS => by obtain ⟨s0, s1, s2, s3, s4, s5, s6⟩ := hS; go_simp⟩) hS ?_
        refine wpAnyH_done (by kernel_rfl) ?_ _
        clear hS HSC
        have e0 : W11.cell? ⟨lb, 0, none⟩ = some (.int .i64 y0) := L11.cell rfl
        have e1 : W11.cell? ⟨lb, 1, none⟩ = some (.string y1) := L11.cell rfl
        have e2 : W11.cell? ⟨lb, 2, none⟩ = some (.bool y2) := L11.cell rfl
        have k0 : W11.cell? ⟨w.heap.size, 0, none⟩ = some (.int .i64 d.kind) := X11.cell rfl
        go_simp
        go_wp2_with fail
        refine Calls.mono (HAw.out _) ?_
        rintro e w20 ⟨rfl, b20⟩
        go_wp2
        go_ret
        exact ⟨rfl, chain BB11 b20⟩
      · have hE2 : E2 = 13 := HE2.out.2 hk
        subst hE2
        have n2 : decide (d.kind = 13) = false := decide_eq_false hk
        have n3 : (d.kind == 13) = false := n2
        have n1 : (d.kind != 13) = true := by rw [bne, n3]; rfl
        clear hk
        have HSC : Hid (∀ wx, Blk wx w2.heap.size #[.int .i64 1, .int .i64 3, .int .i64 2, .int .i64 5] 28 → Blk wx w7.heap.size #[.int .i64 M.frm, .string M.body, .string M.sig] 36 → (fun wx => wx.cell? ⟨w2.heap.size, 0, none⟩ = some (.int .i64 1) ∧ wx.cell? ⟨w2.heap.size, 1, none⟩ = some (.int .i64 3) ∧ wx.cell? ⟨w2.heap.size, 2, none⟩ = some (.int .i64 2) ∧ wx.cell? ⟨w2.heap.size, 3, none⟩ = some (.int .i64 5) ∧ wx.cell? ⟨w7.heap.size, 0, none⟩ = some (.int .i64 M.frm) ∧ wx.cell? ⟨w7.heap.size, 1, none⟩ = some (.string M.body) ∧ wx.cell? ⟨w7.heap.size, 2, none⟩ = some (.string M.sig)) wx) := fun wx X Y => ⟨X.cell rfl, X.cell rfl, X.cell rfl, X.cell rfl, Y.cell rfl, Y.cell rfl, Y.cell rfl⟩
        refine wp_region_held_drew (S := (fun wx => wx.cell? ⟨w2.heap.size, 0, none⟩ = some (.int .i64 1) ∧ wx.cell? ⟨w2.heap.size, 1, none⟩ = some (.int .i64 3) ∧ wx.cell? ⟨w2.heap.size, 2, none⟩ = some (.int .i64 2) ∧ wx.cell? ⟨w2.heap.size, 3, none⟩ = some (.int .i64 5) ∧ wx.cell? ⟨w7.heap.size, 0, none⟩ = some (.int .i64 M.frm) ∧ wx.cell? ⟨w7.heap.size, 1, none⟩ = some (.string M.body) ∧ wx.cell? ⟨w7.heap.size, 2, none⟩ = some (.string M.sig))) (by kernel_rfl) (HSC.out _ XC8.drew M8.drew) (fun hS => ?_)
        refine wpAnyH_take (i := 0) (v := (.agg #[.int .i64 1, .int .i64 3, .int .i64 2, .int .i64 5])) rfl (by kernel_rfl) (by kernel_rfl) (by kernel_rfl) (fun _ _ _ h => h) (Or.inl ⟨by kernel_rfl, fun w hS => by obtain ⟨s0, s1, s2, s3, s4, s5, s6⟩ := hS; go_simp⟩) hS ?_
        refine wpAnyH_take (i := 1) (v := (.pointer (some ⟨p, 0, none⟩))) rfl (by kernel_rfl) (by kernel_rfl) (by kernel_rfl) (fun _ _ _ h => h) (Or.inl ⟨by kernel_rfl, fun w hS => by obtain ⟨s0, s1, s2, s3, s4, s5, s6⟩ := hS; go_simp⟩) hS ?_
        refine wpAnyH_take (i := 2) (v := (.string key)) rfl (by kernel_rfl) (by kernel_rfl) (by kernel_rfl) (fun _ _ _ h => h) (Or.inl ⟨by kernel_rfl, fun w hS => by obtain ⟨s0, s1, s2, s3, s4, s5, s6⟩ := hS; go_simp⟩) hS ?_
        refine wpAnyH_take (i := 3) (v := (.agg #[.int .i64 M.frm, .string M.body, .string M.sig])) rfl (by kernel_rfl) (by kernel_rfl) (by kernel_rfl) (fun _ _ _ h => h) (Or.inl ⟨by kernel_rfl, fun w hS => by obtain ⟨s0, s1, s2, s3, s4, s5, s6⟩ := hS; go_simp⟩) hS ?_
        refine wpAnyH_ready (rs := [4]) (by kernel_rfl) (by simp) ?_
        refine AllReadyH.cons rfl (fun K hK => ?_) AllReadyH.nil
        go_simp
        refine Calls.mono (HOn.out _) ?_
        rintro e w9 ⟨rfl, b9⟩
        have b9' : Below W8.heap.size W8 w9 := chain (Below.refl _ _).drew b9
        have XC9 := XC8.below b9'
        have M9 := M8.below b9'
        have L9 := XL8.below b9'
        have X9 := X08.below b9'
        have K9 := K8.below b9'
        have BB9 := chain BB8 b9'
        refine hK.out _ _ (HSC.out _ XC9 M9) (fun hS => ?_)
        clear hK
        refine wpAnyH_ready (rs := [5]) (by kernel_rfl) (by simp) ?_
        refine AllReadyH.cons rfl (fun K hK => ?_) AllReadyH.nil
        go_simp
        refine Calls.mono (HVf.out _ K9) ?_
        rintro e w10 ⟨rfl, b10⟩
        have XC10 := XC9.below b10
        have M10 := M9.below b10
        have L10 := L9.below b10
        have X10 := X9.below b10
        have BB10 := chain BB9 b10
        refine hK.out _ _ (HSC.out _ XC10 M10) (fun hS => ?_)
        clear hK
        refine wpAnyH_take (i := 6) (v := (.tuple #[.agg #[.int .i64 y0, .string y1, .bool y2], .int .i64 13])) rfl (by kernel_rfl) (by kernel_rfl) (by kernel_rfl) (fun _ _ _ h => h) (Or.inl ⟨by kernel_rfl, fun w hS => by obtain ⟨s0, s1, s2, s3, s4, s5, s6⟩ := hS; go_simp⟩) hS ?_
        refine wpAnyH_take (i := 7) (v := (.agg #[.int .i64 y0, .string y1, .bool y2])) rfl (by kernel_rfl) (by kernel_rfl) (by kernel_rfl) (fun _ _ _ h => h) (Or.inl ⟨by kernel_rfl, fun w hS => by obtain ⟨s0, s1, s2, s3, s4, s5, s6⟩ := hS; go_simp⟩) hS ?_
        refine wpAnyH_take (i := 8) (v := (.int .i64 13)) rfl (by kernel_rfl) (by kernel_rfl) (by kernel_rfl) (fun _ _ _ h => h) (Or.inl ⟨by kernel_rfl, fun w hS => by obtain ⟨s0, s1, s2, s3, s4, s5, s6⟩ := hS; go_simp⟩) hS ?_
        obtain ⟨W11, hW11, L11, _⟩ := setRow_named L10 #[.int .i64 y0, .string y1, .bool y2]
        have XC11 := blk_row XC10 hW11 HNe.out.1
        have M11 := blk_row M10 hW11 HNe.out.2.1
        have X11 := blk_row X10 hW11 HNe.out.2.2.1
        have BB11 := below_row BB10 hW11 HNe.out.2.2.2
        have HYi : Hid ((Tryz.prog.info? 31).map (·.size) = some (#[.int .i64 y0, .string y1, .bool y2] : Array Value).size) := infoLight
        refine wpAnyH_ready (rs := [9]) (by kernel_rfl) (by simp) ?_
        refine readyH_rowC 9 rfl (ty := 31) (x := .tmp 9) (y := .tmp 71) rfl rfl rfl (lb) #[.int .i64 y0, .string y1, .bool y2] (by kernel_rfl) (by kernel_rfl) 31 #[.int .i64 z0, .string z1, .bool z2] L10 HYi.out rfl (by simp [Value.oneCell']) (by rw [hW11]; exact HSC.out _ XC11 M11) (fun hS => ?_)
        rw [hW11]
        rw [hW11] at hS
        refine wpAnyH_take (i := 10) (v := (.int .i64 13)) rfl (by kernel_rfl) (by kernel_rfl) (by kernel_rfl) (fun _ _ _ h => h) (Or.inl ⟨by kernel_rfl, fun w hS => by obtain ⟨s0, s1, s2, s3, s4, s5, s6⟩ := hS; go_simp⟩) hS ?_
        refine wpAnyH_done (by kernel_rfl) ?_ _
        clear hS HSC
        have e0 : W11.cell? ⟨lb, 0, none⟩ = some (.int .i64 y0) := L11.cell rfl
        have e1 : W11.cell? ⟨lb, 1, none⟩ = some (.string y1) := L11.cell rfl
        have e2 : W11.cell? ⟨lb, 2, none⟩ = some (.bool y2) := L11.cell rfl
        have k0 : W11.cell? ⟨w.heap.size, 0, none⟩ = some (.int .i64 d.kind) := X11.cell rfl
        go_simp
        go_wp2_with fail
        refine Calls.mono (HAw.out _) ?_
        rintro e w20 ⟨rfl, b20⟩
        go_wp2
        go_ret
        exact ⟨rfl, chain BB11 b20⟩
    · have hR : sealR [] 2 d = (zeroSg, byE d) := by unfold sealR; rw [if_neg he]
      have hRS : sealS [] 2 d = [] := by unfold sealS; rw [if_neg he]
      rw [hR, hRS] at HSe
      have hne : (byE d != 0) = true := by simpa using he
      generalize byE d = E3 at *
      obtain ⟨sn, sb, sg, HSz⟩ : ∃ sn sb sg, Hid (Calls Tryz.prog 10 #[.pointer (some ⟨p, 0, none⟩), .int .i64 2, .agg #[.int .i64 d.kind, .int .i64 d.view, .int .i64 d.seq, .int .i64 d.client, .int .i64 d.stamp, .string d.digest, .string d.text, .slice lq ln lc]] w7a fun e w' => e = .returned (.tuple #[.agg #[.int .i64 sn, .string sb, .string sg], .int .i64 E3]) ∧ Book w' p b x y [] [] ∧ Off2 x y w7a w') := ⟨_, _, _, HSe⟩
      clear HSe hR hRS
      go_wp2_with ((with_reducible refine rd_row (ty := 24) X7 Tryz.underlying24 rfl hGb ?_ ?_); rfl)
      refine Calls.mono HSz.out ?_
      rintro e w7 ⟨rfl, K7b, o7⟩
      have BB7b : Below w.heap.size w w7 := o7.below (by have := B0.size; omega) (by have := B0.size; omega) BB7 BB7.size
      obtain ⟨W8, hW8, B8⟩ : ∃ W8, w7.alloc (.cells #[.int .i64 sn, .string sb, .string sg] 36) = W8 ∧ Below w7.heap.size w7 W8 := ⟨_, rfl, by go_grown⟩
      have BB8 := chain BB7b B8
      go_wp2_with fail
      refine Calls.mono (HAw.out _) ?_
      rintro e w20 ⟨rfl, b20⟩
      go_wp2
      go_ret
      exact ⟨rfl, chain BB8 b20⟩
theorem verifies_any (d : Bd) (lv : Value) (key raw : ByteArray) (w : World) (h1 : d.digest.size ≤ maxLen) (h2 : d.text.size ≤ maxLen) (h3 : d.list.length * 40 ≤ 140737488351232) (hl : Sgs w lv d.list) (hrz : raw.size ≤ 140737488351232) : Calls Tryz.prog 3 #[d.val lv, .string key, .string raw] w fun e w' => e = .returned (.bool true) ∧ Below w.heap.size w w' := by
  obtain ⟨lq, lc, rfl⟩ := hl.len
  exact verifies_calls d lq _ lc key raw w h1 h2 h3 hl hrz
end Go.Proofs.YtkgollfdbecncaaGreat
