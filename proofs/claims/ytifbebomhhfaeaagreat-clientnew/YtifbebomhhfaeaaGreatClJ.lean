/- A reply that comes; the chapter's example. -/
import Derived.Test.YtifbebomhhfaeaaGreatClI
namespace Go.Proofs.YtifbebomhhfaeaaGreat
open Go.RowKit
set_option linter.unusedSimpArgs false
set_option linter.unusedVariables false

variable {p b x y : Nat} {T : List ByteArray} {S : List (Int × ByteArray)} {q tm tc : Nat} {av : Value} {C : Cs} {w0 : World}
/-- Is a reply taken? -/
def Cs.takes (C : Cs) (who c st : Int) : Bool := C.waits && decide (who < 3 * C.cf + 1 ∧ (c = C.id ∧ st = C.stamp) ∧ rgot C.told who = false)
def Cs.hears (C : Cs) (who c st : Int) (t : ByteArray) : Cs := if C.takes who c st = true then C.hear (some (who, t)) else C
/-- What is true of every client: replies are of unlike replicas. -/
structure CInv (C : Cs) : Prop where
  keys : (C.told.map fun z => z.1.toNat).Nodup
  rng : ∀ z ∈ C.told, 0 ≤ z.1 ∧ z.1 < 3 * C.cf + 1
  cf : 1 ≤ C.cf ∧ C.cf ≤ 4
theorem CInv.len (h : CInv C) : C.told.length ≤ 13 := by
  have h1 := nodup_short (m := 13) h.keys (fun i hi => by
    obtain ⟨z, hz, rfl⟩ := List.mem_map.1 hi
    have := h.rng z hz
    have := h.cf
    omega)
  simpa using h1
theorem rgot_false {l : Rps} {k : Int} (h : rgot l k = false) : ∀ z ∈ l, z.1 ≠ k := fun z hz e => by
  unfold rgot at h
  rw [List.any_eq_false] at h
  exact h z hz (by simp [e])
theorem CInv.hears (h : CInv C) (who c st : Int) (t : ByteArray) (hw : 0 ≤ who) : CInv (C.hears who c st t) := by
  unfold Cs.hears
  split
  · rename_i ht
    unfold Cs.takes at ht
    simp only [Bool.and_eq_true, decide_eq_true_eq] at ht
    have hg := rgot_false ht.2.2.2
    unfold Cs.hear
    simp only []
    split
    · exact ⟨by simp, fun z hz => by simp at hz, h.cf⟩
    · refine ⟨?_, ?_, h.cf⟩
      · simp only [List.map_append, List.map_cons, List.map_nil]
        rw [List.nodup_append]
        refine ⟨h.keys, by simp, fun a ha d hd e => ?_⟩
        obtain ⟨z, hz, rfl⟩ := List.mem_map.1 ha
        simp at hd
        have h1 := hg z hz
        have h2 := h.rng z hz
        omega
      · intro z hz
        rcases List.mem_append.1 hz with h1 | h1
        · exact h.rng z h1
        · simp at h1
          subst h1
          exact ⟨hw, ht.2.1⟩
  · exact h
theorem hear_ans (C : Cs) (o : Option (Int × ByteArray)) : (C.hear o).ans.length ≤ C.ans.length + 1 := by
  cases o with
  | none => simp [Cs.hear]
  | some z => unfold Cs.hear; simp only []; split <;> simp
theorem hears_ans (C : Cs) (who c st : Int) (t : ByteArray) : (C.hears who c st t).ans.length ≤ C.ans.length + 1 := by
  unfold Cs.hears
  split
  · exact hear_ans _ _
  · omega
theorem sgB_small (S : List (Int × ByteArray)) (who : Int) (d : Bd) (hw : isSg who = true) : (⟨(sgB (sgM S who d)).toArray⟩ : ByteArray).size ≤ maxLen := by
  have := sgB_len (sgM S who d) (sgM_ok S who d hw)
  rw [arr_size]
  unfold maxLen
  omega
set_option maxRecDepth 100000 in
theorem rcv_reply (who c st : Int) (t : ByteArray) (w : World) (h : St w0 w p b x y T (note S (who, byS (smB 10 c st t))) q tm tc av C) (hS : S.length < 900000) (hw : isSg who = true) (hc : 0 ≤ c ∧ c ≤ 15) (hs : 1 ≤ st ∧ st ≤ 1099511627776) (ht : t.size ≤ 256) (hI : CInv C) (ha : C.ans.length < 100000) :
    Calls Tryz.prog 9 #[.pointer (some ⟨q, 0, none⟩), .string ⟨(sgB (sgM S who (smB 10 c st t))).toArray⟩] w fun e w' => e = .returned (.bool (C.takes who c st)) ∧ ∃ tc' av', St w0 w' p b x y T (note S (who, byS (smB 10 c st t))) q tm tc' av' (C.hears who c st t) ∧ Kpt av w w' ∧ Frs av av' w := by
  have hl := hI.len
  have hcf := hI.cf
  have hn := note_len S (who, byS (smB 10 c st t))
  cases hwt : C.waits with
  | false =>
    have e1 : C.takes who c st = false := by unfold Cs.takes; rw [hwt]; rfl
    have e2 : C.hears who c st t = C := by unfold Cs.hears; rw [e1]; rfl
    rw [e1, e2]
    refine (receive_idle _ w h hwt).mono ?_
    rintro e w2 ⟨rfl, rfl⟩
    exact ⟨rfl, tc, av, h, Kpt.refl _, Or.inl rfl⟩
  | true =>
    have e0 := heard_reply C S who c st t hw hc hs ht
    have hr := receive_waits ⟨(sgB (sgM S who (smB 10 c st t))).toArray⟩ w h (by omega) (sgB_small S who (smB 10 c st t) hw) (by omega) (by omega) ha hwt
    rw [e0] at hr
    by_cases hk : who < 3 * C.cf + 1 ∧ (c = C.id ∧ st = C.stamp) ∧ rgot C.told who = false
    · have e1 : C.takes who c st = true := by unfold Cs.takes; rw [hwt]; simpa using hk
      have e2 : C.hears who c st t = C.hear (some (who, t)) := by unfold Cs.hears; rw [e1]; rfl
      rw [if_pos hk] at hr
      rw [e1, e2]
      exact hr
    · have e1 : C.takes who c st = false := by unfold Cs.takes; rw [decide_eq_false hk]; simp
      have e2 : C.hears who c st t = C := by unfold Cs.hears; rw [e1]; rfl
      rw [if_neg hk] at hr
      rw [e1, e2]
      exact hr
theorem sgB_full (m : Sg) : ¬ (⟨(sgB m).toArray⟩ : ByteArray) = ⟨#[]⟩ := fun h => by
  have h1 : (sgB m).toArray = #[] := congrArg ByteArray.data h
  have h2 : sgB m = [] := by simpa using h1
  unfold sgB enc encF at h2
  split at h2 <;> simp at h2
def exOp : ByteArray := ⟨#[111, 112]⟩
def exR : ByteArray := ⟨#[114]⟩
def exLie : ByteArray := ⟨#[108, 105, 101]⟩
def ex0 (s : ByteArray) : Cs := ⟨1, 3, 2, 5, 1, 1, s, 0, [], []⟩
def ex1 (s : ByteArray) : Cs := ⟨1, 3, 2, 5, 1, 1, s, 0, [(0, exR)], []⟩
def ex2 (s : ByteArray) : Cs := ⟨1, 3, 2, 5, 1, 1, s, 0, [(0, exR), (1, exLie)], []⟩
def ex3 : Cs := ⟨1, 3, 2, 5, 1, 1, ⟨#[]⟩, 0, [], [(1, exR)]⟩
theorem ex_waits (s : ByteArray) (h : ¬ s = ⟨#[]⟩) : (ex0 s).waits = true ∧ (ex1 s).waits = true ∧ (ex2 s).waits = true := by
  refine ⟨?_, ?_, ?_⟩ <;> (unfold Cs.waits; exact decide_eq_true h)
theorem ex_t0 (s : ByteArray) (h : ¬ s = ⟨#[]⟩) : (ex0 s).takes 0 1 1 = true := by
  unfold Cs.takes; rw [(ex_waits s h).1]; rfl
theorem ex_t1 (s : ByteArray) (h : ¬ s = ⟨#[]⟩) : (ex1 s).takes 0 1 1 = false := by
  unfold Cs.takes; rw [(ex_waits s h).2.1]; rfl
theorem ex_t2 (s : ByteArray) (h : ¬ s = ⟨#[]⟩) : (ex1 s).takes 1 1 1 = true := by
  unfold Cs.takes; rw [(ex_waits s h).2.1]; rfl
theorem ex_t3 (s : ByteArray) (h : ¬ s = ⟨#[]⟩) : (ex2 s).takes 2 1 1 = true := by
  unfold Cs.takes; rw [(ex_waits s h).2.2]; rfl
theorem ex_h0 (s : ByteArray) (h : ¬ s = ⟨#[]⟩) : (ex0 s).hears 0 1 1 exR = ex1 s := by
  unfold Cs.hears; rw [ex_t0 s h, if_pos rfl, hear_no]
  · rfl
  · show ¬ (1 : Int) < (alk [(0, exR)] exR : Int)
    decide +kernel
theorem ex_h1 (s : ByteArray) (h : ¬ s = ⟨#[]⟩) : (ex1 s).hears 0 1 1 exR = ex1 s := by
  unfold Cs.hears; rw [ex_t1 s h]; rfl
theorem ex_h2 (s : ByteArray) (h : ¬ s = ⟨#[]⟩) : (ex1 s).hears 1 1 1 exLie = ex2 s := by
  unfold Cs.hears; rw [ex_t2 s h, if_pos rfl, hear_no]
  · rfl
  · show ¬ (1 : Int) < (alk [(0, exR), (1, exLie)] exLie : Int)
    decide +kernel
theorem ex_h3 (s : ByteArray) (h : ¬ s = ⟨#[]⟩) : (ex2 s).hears 2 1 1 exR = ex3 := by
  unfold Cs.hears; rw [ex_t3 s h, if_pos rfl, hear_yes]
  · rfl
  · show (1 : Int) < (alk [(0, exR), (1, exLie), (2, exR)] exR : Int)
    decide +kernel
theorem ex_i0 (s : ByteArray) : CInv (ex0 s) := ⟨by simp [ex0], fun z hz => by simp [ex0] at hz, by simp [ex0]⟩
theorem ex_i1 (s : ByteArray) : CInv (ex1 s) := ⟨by simp [ex1], fun z hz => by simp [ex1] at hz; subst hz; simp [ex1], by simp [ex1]⟩
theorem ex_i2 (s : ByteArray) : CInv (ex2 s) := ⟨by simp [ex2], fun z hz => by simp [ex2] at hz; rcases hz with rfl | rfl <;> simp [ex2], by simp [ex2]⟩

/-- The struct '==' of answers. -/
theorem fields_answer : (Tryz.prog.fieldsOf 79).toList.map (fun f => (f.name, f.type, f.offset)) = [("Stamp", 3, 0), ("Text", 9, 1)] := by kernel_rfl
theorem eq_answerI (w : World) (p0 q0 : Int) (p1 q1 : ByteArray) : (Op.equal 79 (.agg #[.int .i64 p0, .string p1]) (.agg #[.int .i64 q0, .string q1])).run Tryz.prog w = .ok (decide (p0 = q0) && decide (p1 = q1)) w := by
  have h1 : (Op.equal 79 (.agg #[.int .i64 p0, .string p1]) (.agg #[.int .i64 q0, .string q1])).run Tryz.prog w = (Op.eqFields 9999 #[.int .i64 p0, .string p1] #[.int .i64 q0, .string q1] (Tryz.prog.fieldsOf 79).toList).run Tryz.prog w :=
    run_equalIn_agg w 9999 79 _ _ (by kernel_rfl) (by kernel_rfl)
  rw [h1]
  have hf := fields_answer
  generalize (Tryz.prog.fieldsOf 79).toList = l at hf
  cases l with
  | nil => simp at hf
  | cons f l =>
    cases l with
    | nil => simp at hf
    | cons g l =>
      cases l with
      | cons _ _ => simp at hf
      | nil =>
        simp only [List.map_cons, List.map_nil, List.cons.injEq, Prod.mk.injEq, and_true] at hf
        obtain ⟨⟨a1, a2, a3⟩, b1, b2, b3⟩ := hf
        have q : (Op.equalIn 9999 3 (.int .i64 p0) (.int .i64 q0)).run Tryz.prog w = .ok (p0 == q0) w := run_equalIn_int (P := Tryz.prog) w 9998 3 .i64 .i64 p0 q0 Tryz.underlying3
        have r : (Op.equalIn 9999 9 (.string p1) (.string q1)).run Tryz.prog w = .ok (p1.toList == q1.toList) w := run_equalIn_string (P := Tryz.prog) w 9998 9 p1 q1 Tryz.underlying9
        have x0 : ∀ (a : Int) (b : ByteArray), (part 3 #[.int .i64 a, .string b] 0).run Tryz.prog w = .ok (.int .i64 a) w := fun a b => run_part_plain w (by kernel_rfl) rfl
        have x1 : ∀ (a : Int) (b : ByteArray), (part 9 #[.int .i64 a, .string b] 1).run Tryz.prog w = .ok (.string b) w := fun a b => run_part_plain w (by kernel_rfl) rfl
        simp only [Op.eqFields, a1, a2, a3, b1, b2, b3, Sem.run_bind, Sem.run_ite, x0, x1, Result.andThen_ok, q, r, Sem.run_pure, strEq]
        by_cases e1 : p0 = q0 <;> by_cases e2 : p1 = q1 <;> simp [e1, e2]
theorem eq_answer (w : World) (p0 q0 : Int) (p1 q1 : ByteArray) : (binOp .eql 79 (.agg #[.int .i64 p0, .string p1]) (.agg #[.int .i64 q0, .string q1])).run Tryz.prog w = .ok (.bool (decide (p0 = q0) && decide (p1 = q1))) w := by
  simp only [binOp]
  simp [eq_answerI w p0 q0 p1 q1]
set_option maxHeartbeats 4000000 in
set_option maxRecDepth 100000 in
theorem awake_calls (w : World) : Calls Tryz.prog 13 #[] w fun e w' => e = .returned (.bool true) ∧ Below w.heap.size w w' := by
  have HNB : Hid _ := newBook_calls w
  have HCf : Hid _ := fun wx => config_calls 0 wx
  rw [show (1 : Int) + arn 0 4 = 1 from by decide] at HCf
  go_enter Tryz.func13, Tryz.ntmps13
  go_wp2_with fail
  refine Calls.mono HNB.out ?_
  rintro e w1 ⟨p, b, x, y, rfl, K1, b1, hp, hb, hx, hy⟩
  go_wp2_with fail
  refine (HCf.out _).mono ?_
  rintro e w2 ⟨rfl, b2⟩
  have HNw : Hid _ := new_ok 1 3 2 5 1 w w2 (chain b1 b2) ⟨hp, hb, hx, hy⟩ (K1.below b2) (by decide) (by decide) (by decide) (by decide)
  go_wp2_with fail
  refine Calls.mono HNw.out ?_
  rintro e w3 ⟨q, tm, rfl, H3, b3⟩
  have HRq : Hid _ := request_ok exOp w3 H3 (by decide) 1 rfl (by decide) (by simp [cs0]) (by simp [cs0]) (by decide) rfl
  generalize hs : (⟨(sgB (sgM [] (100 + (cs0 1 3 2 5 1).id) (smB 1 (cs0 1 3 2 5 1).id ((cs0 1 3 2 5 1).stamp + 1) exOp))).toArray⟩ : ByteArray) = s at HRq
  have hsn : ¬ s = ⟨#[]⟩ := by rw [← hs]; exact sgB_full _
  have hsl := note_len ([] : List (Int × ByteArray)) (100 + (cs0 1 3 2 5 1).id, byS (smB 1 (cs0 1 3 2 5 1).id ((cs0 1 3 2 5 1).stamp + 1) exOp))
  generalize note ([] : List (Int × ByteArray)) (100 + (cs0 1 3 2 5 1).id, byS (smB 1 (cs0 1 3 2 5 1).id ((cs0 1 3 2 5 1).stamp + 1) exOp)) = S1 at HRq hsl
  have HSN : Hid _ := hsn
  have HL1 : Hid (S1.length ≤ 1) := hsl
  clear hs hsl hsn HNB HCf HNw
  go_wp2_with fail
  refine Calls.mono HRq.out ?_
  rintro e w4 ⟨v, rfl, ⟨g, rfl, cs, X4, hc⟩, H4, k4⟩
  have H4' : St w w4 p b x y [] S1 q tm 0 (.slice none 0 0) (ex0 s) := H4
  have g3 : w4.cell? ⟨g, 6, none⟩ = some (.int .i64 3) := X4.cell (hc 3 (by decide)).1
  have HWa : Hid _ := waits_calls w4 H4'
  rw [(ex_waits s HSN.out).1] at HWa
  clear H4 hc
  go_wp2_with fail
  refine Calls.mono HWa.out ?_
  rintro e w4 ⟨rfl, rfl⟩
  have HR0 : Hid _ := reply_calls 0 1 1 exR w4 H4'.book (by have := HL1.out; omega) (by decide) (by decide) (by decide) (by decide)
  clear HWa HRq g3
  go_wp2_with fail
  refine Calls.mono HR0.out ?_
  rintro e w5 ⟨rfl, K5, o5⟩
  have H5 := H4'.off2 K5 o5
  have HV0 : Hid _ := rcv_reply 0 1 1 exR w5 H5 (by have := HL1.out; omega) (by decide) (by decide) (by decide) (by decide) (ex_i0 s) (by simp [ex0])
  rw [ex_t0 s HSN.out, ex_h0 s HSN.out] at HV0
  have hl2 := note_len S1 (0, byS (smB 10 1 1 exR))
  generalize note S1 (0, byS (smB 10 1 1 exR)) = S2 at *
  have HL2 : Hid (S2.length ≤ 2) := by show _ ≤ _; have := HL1.out; omega
  clear hl2 HR0 K5 o5 H4'
  go_wp2_with fail
  refine Calls.mono HV0.out ?_
  rintro e w6 ⟨rfl, tc6, av6, H6, k6⟩
  have HR1 : Hid _ := reply_calls 0 1 1 exR w6 H6.book (by have := HL2.out; omega) (by decide) (by decide) (by decide) (by decide)
  clear HV0 H5
  go_wp2_with fail
  refine Calls.mono HR1.out ?_
  rintro e w7 ⟨rfl, K7, o7⟩
  have H7 := H6.off2 K7 o7
  have HV1 : Hid _ := rcv_reply 0 1 1 exR w7 H7 (by have := HL2.out; omega) (by decide) (by decide) (by decide) (by decide) (ex_i1 s) (by simp [ex1])
  rw [ex_t1 s HSN.out, ex_h1 s HSN.out] at HV1
  have hl3 := note_len S2 (0, byS (smB 10 1 1 exR))
  generalize note S2 (0, byS (smB 10 1 1 exR)) = S3 at *
  have HL3 : Hid (S3.length ≤ 3) := by show _ ≤ _; have := HL2.out; omega
  clear hl3 HR1 K7 o7 H6
  go_wp2_with fail
  refine Calls.mono HV1.out ?_
  rintro e w8 ⟨rfl, tc8, av8, H8, k8⟩
  have HR2 : Hid _ := reply_calls 1 1 1 exLie w8 H8.book (by have := HL3.out; omega) (by decide) (by decide) (by decide) (by decide)
  clear HV1 H7
  go_wp2_with fail
  refine Calls.mono HR2.out ?_
  rintro e w9 ⟨rfl, K9, o9⟩
  have H9 := H8.off2 K9 o9
  have HV2 : Hid _ := rcv_reply 1 1 1 exLie w9 H9 (by have := HL3.out; omega) (by decide) (by decide) (by decide) (by decide) (ex_i1 s) (by simp [ex1])
  rw [ex_t2 s HSN.out, ex_h2 s HSN.out] at HV2
  have hl4 := note_len S3 (1, byS (smB 10 1 1 exLie))
  generalize note S3 (1, byS (smB 10 1 1 exLie)) = S4 at *
  have HL4 : Hid (S4.length ≤ 4) := by show _ ≤ _; have := HL3.out; omega
  clear hl4 HR2 K9 o9 H8
  go_wp2_with fail
  refine Calls.mono HV2.out ?_
  rintro e w10 ⟨rfl, tc10, av10, H10, k10⟩
  have HW2 : Hid _ := waits_calls w10 H10
  rw [(ex_waits s HSN.out).2.2] at HW2
  clear HV2 H9
  go_wp2_with fail
  refine Calls.mono HW2.out ?_
  rintro e w10 ⟨rfl, rfl⟩
  have HR3 : Hid _ := reply_calls 2 1 1 exR w10 H10.book (by have := HL4.out; omega) (by decide) (by decide) (by decide) (by decide)
  clear HW2
  go_wp2_with fail
  refine Calls.mono HR3.out ?_
  rintro e w11 ⟨rfl, K11, o11⟩
  have H11 := H10.off2 K11 o11
  have HV3 : Hid _ := rcv_reply 2 1 1 exR w11 H11 (by have := HL4.out; omega) (by decide) (by decide) (by decide) (by decide) (ex_i2 s) (by simp [ex2])
  rw [ex_t3 s HSN.out, ex_h3 s HSN.out] at HV3
  clear HR3 K11 o11 H10
  go_wp2_with fail
  refine Calls.mono HV3.out ?_
  rintro e w12 ⟨rfl, tc12, av12, H12, k12⟩
  have HA : Hid _ := answers_calls w12 H12 (by simp [ex3])
  clear HV3 H11
  go_wp2_with fail
  refine Calls.mono HA.out ?_
  rintro e w13 ⟨v13, rfl, ho, b13⟩
  have H13 := H12.keep b13
  have hlen : ex3.ans.length = 1 := rfl
  rw [hlen] at ho
  obtain ⟨g13, cap13, rfl, hg13, hcap, hcell⟩ := own_at ho (by decide)
  have r0 : w13.cell? ⟨g13, 0, none⟩ = some (.int .i64 1) := hcell 0 _ rfl
  have r1 : w13.cell? ⟨g13, 1, none⟩ = some (.string exR) := hcell 1 _ rfl
  have HW3 : Hid _ := waits_calls w13 H13
  rw [show ex3.waits = false from by decide +kernel] at HW3
  have heq : ∀ wx, (binOp .eql 79 (.agg #[.int .i64 1, .string exR]) (.agg #[.int .i64 1, .string ⟨#[114]⟩])).run Tryz.prog wx = .ok (.bool true) wx := fun wx => by
    rw [eq_answer]
    rfl
  have HB : Hid _ := H13.below
  clear hcell ho HA H12
  go_wp2_with fail
  refine Calls.mono HW3.out ?_
  rintro e w13 ⟨rfl, rfl⟩
  go_wp2
  go_ret
  exact ⟨rfl, HB.out⟩
end Go.Proofs.YtifbebomhhfaeaaGreat
