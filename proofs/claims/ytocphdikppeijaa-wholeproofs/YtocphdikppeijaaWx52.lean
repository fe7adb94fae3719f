/- A proof that goes over as bytes in a sealed body, and what is read there. -/
import Derived.Test.YtocphdikppeijaaWx37
import Derived.Test.YtocphdikppeijaaWx51
import Derived.Test.YtocphdikppeijaaWx50
namespace Go.Proofs.Ytocphdikppeijaa
open Go.RowKit
set_option linter.unusedSimpArgs false
set_option linter.unusedVariables false

variable {p b x y : Nat} {T : List ByteArray} {S : List (Int × ByteArray)}
def cM : Sg := ⟨1, ⟨#[99]⟩, ⟨#[]⟩⟩
theorem cM_ok : ([cM] : List Sg).all sgOk = true := by decide +kernel
theorem cM_len : (sgsB [cM]).length ≤ 500000 := by decide +kernel
theorem carried_results {w' : World} {c0 c1 : Value} {r : Nat} (X : Blk w' r #[c0, c1] 30) {t : Array Value} {s f : Value} (h0 : t.getD 8 undef = s) (h1 : t.getD 9 undef = .pointer (some ⟨r, 0, none⟩)) (h2 : t.getD 10 undef = f) :
    (results Try.f10 t).run Try.prog w' = .ok (.tuple #[s, .agg #[c0, c1], f]) w' := by
  have a0 := X.cell (o := 0) rfl
  have a1 := X.cell (o := 1) rfl
  simp only [Array.getD_eq_getD_getElem?] at h0 h1 h2
  simp [results, Try.results10, go_sem, h0, h1, h2, a0, a1]

set_option maxHeartbeats 4000000 in
set_option maxRecDepth 100000 in
theorem carried_calls (who : Int) (r : ByteArray) (q : Pf) (a : Option Addr) (n c : Nat) (w : World) (h : Book w p b x y T S) (hS : S.length < 900000) (hw : isSg who = true) (hr : 1 ≤ r.size ∧ r.size ≤ 32) (hp : Pts w (.slice a n c) q.paths) (hok : pfOk q = true) :
    Calls Try.prog 10 #[.pointer (some ⟨p, 0, none⟩), .int .i64 who, .string r, q.val (.slice a n c)] w fun e w' => ∃ lv ps S', e = .returned (.tuple #[.string r, q.val lv, .bool true]) ∧ q.paths = ps.map Prod.fst ∧ PtsOwn w' w.heap.size lv ps ∧ Book w' p b x y T S' ∧ S'.length ≤ S.length + 1 ∧ Off2 x y w w' := by
  obtain ⟨t, ht⟩ : ∃ t : ByteArray, ⟨(pfB q).toArray⟩ = t := ⟨_, rfl⟩
  have htz : t.size ≤ 12020 := by rw [← ht]; exact pfB_len hok
  have hd : right (prB 4 r t [cM]) = 0 := by rw [pr_right 4 r t [cM] ⟨by decide, by decide, by decide⟩ hr (by omega) (by decide) cM_ok, if_neg (by simp)]
  have he : byE (prB 4 r t [cM]) = 0 := byE_len hd (by have := pr_len 4 r t [cM] hr.2 (by omega) cM_len; omega)
  obtain ⟨hs1, hs2⟩ := seal_sgM S who _ hw he
  have hmo := sgM_ok S who (prB 4 r t [cM]) hw
  have hof := of_sgM S who (prB 4 r t [cM]) hw
  have hop := open_sgM S who (prB 4 r t [cM]) hw he
  have hpf : ofPfR t = .ok q := by rw [← ht]; exact of_pf hok
  have hpr : proofR q = #[.string t, .int .i64 0] := by unfold proofR; rw [if_pos hok, ht]
  have hnl := note_len S (who, byS (prB 4 r t [cM]))
  obtain ⟨W1, hW1, X1, Y1, B1, Z1⟩ : ∃ W1, (w.alloc (.cells #[.int .i64 q.cnt, .slice a n c] 30)).alloc (.cells #[.int .i64 0, .slice none 0 0] 30) = W1 ∧ Blk W1 w.heap.size #[.int .i64 q.cnt, .slice a n c] 30 ∧ Blk W1 (w.heap.size + 1) #[.int .i64 0, .slice none 0 0] 30 ∧ Below w.heap.size w W1 ∧ W1.heap.size = w.heap.size + 2 :=
    ⟨_, rfl, (blk_new _ _ _ _ rfl).alloc _, blk_new _ _ _ _ (by simp), by go_grown, by simp⟩
  have e0 : W1.cell? ⟨w.heap.size, 0, none⟩ = some (.int .i64 q.cnt) := X1.cell rfl
  have e1 : W1.cell? ⟨w.heap.size, 1, none⟩ = some (.slice a n c) := X1.cell rfl
  have hb1 := h.below B1
  have HPu : Hid _ := putProof_calls q (.slice a n c) W1 (hp.below B1)
  rw [hpr] at HPu
  unfold Pf.val at HPu
  have HSe : Hid _ := fun (g : Nat) (wx : World) (hx : Book wx p b x y T S) (hl : Sgs wx (.slice (some ⟨g, 0, none⟩) 1 1) [cM]) => seal_calls who (prB 4 r t [cM]) (some ⟨g, 0, none⟩) 1 1 wx hx (by omega) (by show r.size ≤ maxLen; unfold maxLen; omega) (by show t.size ≤ maxLen; unfold maxLen; omega) (show ([cM] : List Sg).length < _ by decide) hl
  rw [hs1, hs2] at HSe
  obtain ⟨M, hM⟩ : ∃ M, sgM S who (prB 4 r t [cM]) = M := ⟨_, rfl⟩
  obtain ⟨S', hS'⟩ : ∃ S', note S (who, byS (prB 4 r t [cM])) = S' := ⟨_, rfl⟩
  rw [hM] at HSe hmo hof hop
  rw [hS'] at HSe hop hnl
  have hmp : M.body.size ≤ 1048576 ∧ M.sig.size ≤ 32 := by
    unfold sgOk at hmo
    simp only [Bool.and_eq_true, decide_eq_true_eq] at hmo
    exact ⟨hmo.1.2, hmo.2⟩
  have HPs : Hid _ := fun wx => putSigned_calls M wx (by unfold maxLen; omega) (by unfold maxLen; omega)
  rw [hmo] at HPs
  simp only [if_true] at HPs
  have hsz : (⟨(sgB M).toArray⟩ : ByteArray).size ≤ maxLen := by
    have := sgB_len M hmo
    show (sgB M).length ≤ maxLen
    unfold maxLen
    omega
  have HOs : Hid _ := fun wx => ofSigned_calls ⟨(sgB M).toArray⟩ wx hsz
  rw [hof] at HOs
  unfold sgAns at HOs
  have HOp : Hid (∀ wx, Book wx p b x y T S' → Calls Try.prog 24 #[.pointer (some ⟨p, 0, none⟩), .agg #[.int .i64 M.frm, .string M.body, .string M.sig]] wx fun e w' => ∃ (g : Option Addr) (n c : Nat), e = .returned (.tuple #[.agg #[.int .i64 13, .int .i64 0, .int .i64 4, .int .i64 0, .int .i64 0, .string r, .string t, .slice g n c], .int .i64 0]) ∧ Below wx.heap.size wx w') := fun wx hx => by
    have := open_calls M wx hx (by omega) (by unfold maxLen; omega)
    rw [hop] at this
    refine this.mono ?_
    rintro e w' ⟨lv, rfl, ho, hb⟩
    obtain ⟨g, c, rfl⟩ := sgs_of_own' ho
    exact ⟨g, _, c, rfl, hb⟩
  have HOf : Hid (∀ wx, Calls Try.prog 25 #[.string t] wx fun e w' => ∃ (g : Option Addr) (n c : Nat) (ps : List (Pt × Value)), e = .returned (.tuple #[.agg #[.int .i64 q.cnt, .slice g n c], .int .i64 0]) ∧ q.paths = ps.map Prod.fst ∧ PtsOwn w' wx.heap.size (.slice g n c) ps ∧ Below wx.heap.size wx w') := fun wx => by
    have := ofProof_calls t wx (by unfold maxLen; omega)
    rw [hpf] at this
    refine this.mono ?_
    rintro e w' ⟨lv, ps, rfl, h1, ho, hb⟩
    obtain ⟨g, c, rfl⟩ := own_slice ho.row
    exact ⟨g, _, c, ps, rfl, h1, ho, hb⟩
  generalize (⟨(sgB M).toArray⟩ : ByteArray) = sb at *
  unfold Sg.val at HSe HOs HPs
  unfold prB Bd.val at HSe
  unfold Pf.val
  have HGs : Hid ((Try.prog.info? 58).map (·.size) = some (#[.int .i64 M.frm, .string M.body, .string M.sig] : Array Value).size) := sizeSigned
  clear hd he hs1 hs2 hM hS' hpr hpf ht hmo hof hop hsz hmp X1 hp
  have HY1 : Hid _ := Y1
  clear Y1
  go_enter Try.func10, Try.ntmps10
  go_wp2_with fail
  refine Calls.mono HPu.out ?_
  rintro e w2 ⟨rfl, b2⟩
  obtain ⟨W3, hW3, X3, B3⟩ : ∃ W3, w2.alloc (.cells #[.int .i64 1, .string ⟨#[99]⟩, .string ⟨#[]⟩] 58) = W3 ∧ Blk W3 w2.heap.size #[.int .i64 1, .string ⟨#[99]⟩, .string ⟨#[]⟩] 58 ∧ Below w2.heap.size w2 W3 :=
    ⟨_, rfl, blk_new _ _ _ _ rfl, by go_grown⟩
  have hb3 := (hb1.below b2).below B3
  have hl3 : Sgs W3 (.slice (some ⟨w2.heap.size, 0, none⟩) 1 1) [cM] := by
    refine Or.inr ⟨w2.heap.size, 0, 1, rfl, fun i hi => ?_⟩
    obtain rfl : i = 0 := by simp at hi; omega
    exact ⟨X3.cell rfl, X3.cell rfl, X3.cell rfl, by show (1 : Nat) ≤ maxLen; unfold maxLen; decide, by show (0 : Nat) ≤ maxLen; unfold maxLen; decide⟩
  have HS3 : Hid _ := HSe.out w2.heap.size W3 hb3 hl3
  have HYa : Hid _ := (Blk.below (Blk.below HY1.out b2) B3)
  clear HSe X3 hl3 HPu e0 e1 HY1
  go_wp2_with fail
  refine Calls.mono HS3.out ?_
  rintro e w4 ⟨rfl, K4, o4⟩
  obtain ⟨W5, hW5, M5, B5⟩ : ∃ W5, w4.alloc (.cells #[.int .i64 M.frm, .string M.body, .string M.sig] 58) = W5 ∧ Blk W5 w4.heap.size #[.int .i64 M.frm, .string M.body, .string M.sig] 58 ∧ Below w4.heap.size w4 W5 := ⟨_, rfl, blk_new _ _ _ _ rfl, by go_grown⟩
  go_wp2_with ((with_reducible refine rd_row (ty := 58) M5 Try.underlying58 rfl HGs.out ?_ ?_); rfl)
  refine Calls.mono (HPs.out _) ?_
  rintro e w6 ⟨rfl, b6⟩
  go_wp2_with fail
  refine Calls.mono (HOs.out _) ?_
  rintro e w7 ⟨rfl, b7⟩
  obtain ⟨W8, hW8, M8, B8⟩ : ∃ W8, w7.alloc (.cells #[.int .i64 M.frm, .string M.body, .string M.sig] 58) = W8 ∧ Blk W8 w7.heap.size #[.int .i64 M.frm, .string M.body, .string M.sig] 58 ∧ Below w7.heap.size w7 W8 := ⟨_, rfl, blk_new _ _ _ _ rfl, by go_grown⟩
  have b48 := chain (chain (chain B5 b6) b7) B8
  go_wp2_with ((with_reducible refine rd_row (ty := 58) M8 Try.underlying58 rfl HGs.out ?_ ?_); rfl)
  refine Calls.mono (HOp.out _ (K4.below b48)) ?_
  rintro e w9 ⟨g9, n9, c9, rfl, b9⟩
  obtain ⟨W10, hW10, M10, B10⟩ : ∃ W10, w9.alloc (.cells #[.int .i64 13, .int .i64 0, .int .i64 4, .int .i64 0, .int .i64 0, .string r, .string t, .slice g9 n9 c9] 63) = W10 ∧ Blk W10 w9.heap.size #[.int .i64 13, .int .i64 0, .int .i64 4, .int .i64 0, .int .i64 0, .string r, .string t, .slice g9 n9 c9] 63 ∧ Below w9.heap.size w9 W10 := ⟨_, rfl, blk_new _ _ _ _ rfl, by go_grown⟩
  have f6 : W10.cell? ⟨w9.heap.size, 6, none⟩ = some (.string t) := M10.cell rfl
  have HM10 : Hid _ := M10
  clear M5 M8 M10
  go_wp2_with fail
  refine Calls.mono (HOf.out _) ?_
  rintro e w11 ⟨g1, n1, c1, ps, rfl, hps, ho, b11⟩
  obtain ⟨W12, hW12, M12, B12⟩ : ∃ W12, w11.alloc (.cells #[.int .i64 q.cnt, .slice g1 n1 c1] 30) = W12 ∧ Blk W12 w11.heap.size #[.int .i64 q.cnt, .slice g1 n1 c1] 30 ∧ Below w11.heap.size w11 W12 := ⟨_, rfl, blk_new _ _ _ _ rfl, by go_grown⟩
  have b412 := chain (chain (chain (chain b48 b9) B10) b11) B12
  have f5 : W12.cell? ⟨w9.heap.size, 5, none⟩ = some (.string r) := (Blk.below (Blk.below HM10.out b11) B12).cell rfl
  have k0 : W12.cell? ⟨w11.heap.size, 0, none⟩ = some (.int .i64 q.cnt) := M12.cell rfl
  have k1 : W12.cell? ⟨w11.heap.size, 1, none⟩ = some (.slice g1 n1 c1) := M12.cell rfl
  have z2 : w.heap.size + 2 ≤ w2.heap.size := by have := b2.size; omega
  have z3 : w2.heap.size ≤ W3.heap.size := B3.size
  have z4 : W3.heap.size ≤ w4.heap.size := o4.size
  have z9 : w4.heap.size ≤ w9.heap.size := by have := b48.size; have := b9.size; omega
  have z11 : w9.heap.size ≤ w11.heap.size := by have := B10.size; have := b11.size; omega
  have hlt := h.lts
  have Y12 : Blk W12 (w.heap.size + 1) #[.int .i64 0, .slice none 0 0] 30 := (Blk.off2 HYa.out o4 (by omega) (by omega)).below b412
  have y0 : W12.cell? ⟨w.heap.size + 1, 0, none⟩ = some (.int .i64 0) := Y12.cell rfl
  have y1 : W12.cell? ⟨w.heap.size + 1, 1, none⟩ = some (.slice none 0 0) := Y12.cell rfl
  have HY : Hid _ := Y12
  have HB10 : Hid _ := Blk.below (Blk.below HM10.out b11) B12
  have HB12 : Hid _ := M12
  have HK4 : Hid _ := K4.below b412
  have HO4 : Hid _ := (Off2.of_below (chain (chain B1 b2) B3)).trans (o4.trans (Off2.of_below b412))
  have HO : Hid _ := ho.below B12
  have HPS : Hid _ := hps
  have z10 : w9.heap.size ≤ W10.heap.size := B10.size
  clear hps
  clear Y12 K4 o4 ho M12 HM10 HYa h hb1 hb3 f6 hW1 hW3 hW5 hW8 hW10 b48 b9 B10 b11 B12 B1 b2 B3 B5 b6 b7 B8 b412 HPs HOs HOp HOf HS3 HGs
  go_wp2_with fail
  have HSN : Hid ((fun W => W.cell? ⟨w9.heap.size, 5, none⟩ = some (.string r) ∧ W.cell? ⟨w11.heap.size, 0, none⟩ = some (.int .i64 q.cnt) ∧ W.cell? ⟨w11.heap.size, 1, none⟩ = some (.slice g1 n1 c1)) (W12.drew.setRow (w.heap.size + 1) #[.int .i64 q.cnt, .slice g1 n1 c1])) := by
    have q1 := Blk.setRowOther (w := W12.drew) (j := w.heap.size + 1) HB10.out #[.int .i64 q.cnt, .slice g1 n1 c1] (by omega)
    have q2 := Blk.setRowOther (w := W12.drew) (j := w.heap.size + 1) HB12.out #[.int .i64 q.cnt, .slice g1 n1 c1] (by omega)
    exact ⟨q1.cell rfl, q2.cell rfl, q2.cell rfl⟩
  refine wp_region_held_drew (S := fun W => W.cell? ⟨w9.heap.size, 5, none⟩ = some (.string r) ∧ W.cell? ⟨w11.heap.size, 0, none⟩ = some (.int .i64 q.cnt) ∧ W.cell? ⟨w11.heap.size, 1, none⟩ = some (.slice g1 n1 c1)) (by kernel_rfl) ⟨f5, k0, k1⟩ (fun hS => ?_)
  refine wpAnyH_take (i := 0) (v := .pointer (some ⟨w9.heap.size, 5, none⟩)) rfl (by kernel_rfl) (by kernel_rfl) (by kernel_rfl) (fun _ _ _ h => h) (Or.inl ⟨by rfl, fun w hS => by obtain ⟨s0, s1, s2⟩ := hS; go_simp⟩) hS ?_
  refine wpAnyH_take (i := 1) (v := .string r) rfl (by kernel_rfl) (by kernel_rfl) (by kernel_rfl) (fun _ _ _ h => h) (Or.inl ⟨by rfl, fun w hS => by obtain ⟨s0, s1, s2⟩ := hS; go_simp⟩) hS ?_
  refine wpAnyH_take (i := 2) (v := .agg #[.int .i64 q.cnt, .slice g1 n1 c1]) rfl (by kernel_rfl) (by kernel_rfl) (by kernel_rfl) (fun _ _ _ h => h) (Or.inl ⟨by rfl, fun w hS => by obtain ⟨s0, s1, s2⟩ := hS; go_simp⟩) hS ?_
  refine wpAnyH_take (i := 3) (v := .int .i64 0) rfl (by kernel_rfl) (by kernel_rfl) (by kernel_rfl) (fun _ _ _ h => h) (Or.inl ⟨by rfl, fun w hS => by obtain ⟨s0, s1, s2⟩ := hS; go_simp⟩) hS ?_
  refine wpAnyH_take (i := 4) (v := .bool true) rfl (by kernel_rfl) (by kernel_rfl) (by kernel_rfl) (fun _ _ _ h => h) (Or.inl ⟨by rfl, fun w hS => by obtain ⟨s0, s1, s2⟩ := hS; go_simp⟩) hS ?_
  refine wpAnyH_take (i := 5) (v := .bool true) rfl (by kernel_rfl) (by kernel_rfl) (by kernel_rfl) (fun _ _ _ h => h) (Or.inl ⟨by rfl, fun w hS => by obtain ⟨s0, s1, s2⟩ := hS; go_simp⟩) hS ?_
  refine wpAnyH_take (i := 6) (v := .int .i64 0) rfl (by kernel_rfl) (by kernel_rfl) (by kernel_rfl) (fun _ _ _ h => h) (Or.inl ⟨by kernel_rfl, fun w hS => by obtain ⟨s0, s1, s2⟩ := hS; go_simp⟩) hS ?_
  refine wpAnyH_take (i := 7) (v := .bool true) rfl (by kernel_rfl) (by kernel_rfl) (by kernel_rfl) (fun _ _ _ h => h) (Or.inl ⟨by kernel_rfl, fun w hS => by obtain ⟨s0, s1, s2⟩ := hS; go_simp⟩) hS ?_
  refine wpAnyH_take (i := 8) (v := .bool true) rfl (by kernel_rfl) (by kernel_rfl) (by kernel_rfl) (fun _ _ _ h => h) (Or.inl ⟨by rfl, fun w hS => by obtain ⟨s0, s1, s2⟩ := hS; go_simp⟩) hS ?_
  refine wpAnyH_take (i := 9) (v := .bool true) rfl (by kernel_rfl) (by kernel_rfl) (by kernel_rfl) (fun _ _ _ h => h) (Or.inl ⟨by rfl, fun w hS => by obtain ⟨s0, s1, s2⟩ := hS; go_simp⟩) hS ?_
  refine wpAnyH_take (i := 10) (v := .int .i64 0) rfl (by kernel_rfl) (by kernel_rfl) (by kernel_rfl) (fun _ _ _ h => h) (Or.inl ⟨by kernel_rfl, fun w hS => by obtain ⟨s0, s1, s2⟩ := hS; go_simp⟩) hS ?_
  refine wpAnyH_take (i := 11) (v := .bool true) rfl (by kernel_rfl) (by kernel_rfl) (by kernel_rfl) (fun _ _ _ h => h) (Or.inl ⟨by kernel_rfl, fun w hS => by obtain ⟨s0, s1, s2⟩ := hS; go_simp⟩) hS ?_
  refine wpAnyH_take (i := 12) (v := .bool true) rfl (by kernel_rfl) (by kernel_rfl) (by kernel_rfl) (fun _ _ _ h => h) (Or.inl ⟨by rfl, fun w hS => by obtain ⟨s0, s1, s2⟩ := hS; go_simp⟩) hS ?_
  refine wpAnyH_take (i := 13) (v := .bool true) rfl (by kernel_rfl) (by kernel_rfl) (by kernel_rfl) (fun _ _ _ h => h) (Or.inl ⟨by rfl, fun w hS => by obtain ⟨s0, s1, s2⟩ := hS; go_simp⟩) hS ?_
  refine wpAnyH_take (i := 14) (v := .int .i64 0) rfl (by kernel_rfl) (by kernel_rfl) (by kernel_rfl) (fun _ _ _ h => h) (Or.inl ⟨by kernel_rfl, fun w hS => by obtain ⟨s0, s1, s2⟩ := hS; go_simp⟩) hS ?_
  refine wpAnyH_take (i := 15) (v := .bool true) rfl (by kernel_rfl) (by kernel_rfl) (by kernel_rfl) (fun _ _ _ h => h) (Or.inl ⟨by kernel_rfl, fun w hS => by obtain ⟨s0, s1, s2⟩ := hS; go_simp⟩) hS ?_
  refine wpAnyH_take (i := 16) (v := .bool true) rfl (by kernel_rfl) (by kernel_rfl) (by kernel_rfl) (fun _ _ _ h => h) (Or.inl ⟨by rfl, fun w hS => by obtain ⟨s0, s1, s2⟩ := hS; go_simp⟩) hS ?_
  refine wpAnyH_take (i := 17) (v := .bool true) rfl (by kernel_rfl) (by kernel_rfl) (by kernel_rfl) (fun _ _ _ h => h) (Or.inl ⟨by rfl, fun w hS => by obtain ⟨s0, s1, s2⟩ := hS; go_simp⟩) hS ?_
  refine wpAnyH_take (i := 18) (v := .int .i64 0) rfl (by kernel_rfl) (by kernel_rfl) (by kernel_rfl) (fun _ _ _ h => h) (Or.inl ⟨by kernel_rfl, fun w hS => by obtain ⟨s0, s1, s2⟩ := hS; go_simp⟩) hS ?_
  refine wpAnyH_take (i := 19) (v := .bool true) rfl (by kernel_rfl) (by kernel_rfl) (by kernel_rfl) (fun _ _ _ h => h) (Or.inl ⟨by kernel_rfl, fun w hS => by obtain ⟨s0, s1, s2⟩ := hS; go_simp⟩) hS ?_
  refine wpAnyH_take (i := 20) (v := .bool true) rfl (by kernel_rfl) (by kernel_rfl) (by kernel_rfl) (fun _ _ _ h => h) (Or.inl ⟨by rfl, fun w hS => by obtain ⟨s0, s1, s2⟩ := hS; go_simp⟩) hS ?_
  refine wpAnyH_take (i := 21) (v := .bool true) rfl (by kernel_rfl) (by kernel_rfl) (by kernel_rfl) (fun _ _ _ h => h) (Or.inl ⟨by rfl, fun w hS => by obtain ⟨s0, s1, s2⟩ := hS; go_simp⟩) hS ?_
  refine wpAnyH_take (i := 22) (v := .int .i64 0) rfl (by kernel_rfl) (by kernel_rfl) (by kernel_rfl) (fun _ _ _ h => h) (Or.inl ⟨by kernel_rfl, fun w hS => by obtain ⟨s0, s1, s2⟩ := hS; go_simp⟩) hS ?_
  refine wpAnyH_take (i := 23) (v := .bool true) rfl (by kernel_rfl) (by kernel_rfl) (by kernel_rfl) (fun _ _ _ h => h) (Or.inl ⟨by kernel_rfl, fun w hS => by obtain ⟨s0, s1, s2⟩ := hS; go_simp⟩) hS ?_
  refine wpAnyH_take (i := 24) (v := .bool true) rfl (by kernel_rfl) (by kernel_rfl) (by kernel_rfl) (fun _ _ _ h => h) (Or.inl ⟨by rfl, fun w hS => by obtain ⟨s0, s1, s2⟩ := hS; go_simp⟩) hS ?_
  refine wpAnyH_take (i := 25) (v := .string r) rfl (by kernel_rfl) (by kernel_rfl) (by kernel_rfl) (fun _ _ _ h => h) (Or.inl ⟨by rfl, fun w hS => by obtain ⟨s0, s1, s2⟩ := hS; go_simp⟩) hS ?_
  refine wpAnyH_ready (rs := [26]) (by kernel_rfl) (by simp) ?_
  refine readyH_rowC 26 rfl rfl rfl rfl (w.heap.size + 1) #[.int .i64 q.cnt, .slice g1 n1 c1] (by kernel_rfl) (by kernel_rfl) 30 #[.int .i64 0, .slice none 0 0] HY.out (infoPf2 _ _) rfl (pfOne _ _ _ _) HSN.out (fun hS => ?_)
  refine wpAnyH_take (i := 27) (v := .bool true) rfl (by kernel_rfl) (by kernel_rfl) (by kernel_rfl) (fun _ _ _ h => h) (Or.inl ⟨by rfl, fun w hS => by obtain ⟨s0, s1, s2⟩ := hS; go_simp⟩) hS ?_
  refine wpAnyH_done (by kernel_rfl) ?_ _
  obtain ⟨W13, hW13, X13, _⟩ := setRow_named (w := W12.drew) HY.out #[.int .i64 q.cnt, .slice g1 n1 c1]
  rw [hW13]
  go_wp2_with fail
  refine bodyPost_ret (v := .tuple #[.string r, .agg #[.int .i64 q.cnt, .slice g1 n1 c1], .bool true]) (carried_results X13 rfl rfl rfl) rfl ?_
  have hBd : Book W12.drew p b x y T S' := HK4.out.below (Below.refl _ _).drew
  have hOd : Off2 x y w W12.drew := HO4.out.trans (Off2.of_below (Below.refl _ _).drew)
  refine ⟨.slice g1 n1 c1, rfl, ps, HPS.out, ⟨?_, fun z hz => ?_⟩, S', hBd.row hW13 (by omega) (by omega) (by omega) (by omega), hnl, hOd.row hW13 (by omega)⟩
  · rw [← hW13]; exact ownsRow_weakM (own_rowM (own_drew HO.out.row) (by omega)) (by omega)
  · rw [← hW13]; exact ownsRow_weakM (own_rowM (own_drew (HO.out.each z hz)) (by omega)) (by omega)
end Go.Proofs.Ytocphdikppeijaa
