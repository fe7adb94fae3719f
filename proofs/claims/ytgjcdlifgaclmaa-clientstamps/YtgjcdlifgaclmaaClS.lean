/- ClientStamps for every input: what it answers. -/
import Derived.Test.YtgjcdlifgaclmaaClJ
namespace Go.Proofs.Ytgjcdlifgaclmaa
open Go.RowKit
set_option linter.unusedSimpArgs false
set_option linter.unusedVariables false

variable {p b x y : Nat} {T : List ByteArray} {S : List (Int × ByteArray)} {q tm tc : Nat} {av : Value} {C : Cs} {w0 : World} {n : Nat} {l : Rps}
/-- Behind n answers, nothing waits. -/
structure Idle (C : Cs) (n : Nat) : Prop where
  fix : C.cf = 1 ∧ C.id = 2 ∧ C.stamp = n
  asked : C.asked = ⟨#[]⟩
  told : C.told = []
  len : C.ans.length = n
theorem Idle.waits (h : Idle C n) : C.waits = false := by unfold Cs.waits; rw [h.asked]; decide
/-- What comes of a request that is answered alike by 0 and 3. -/
structure Tried (C : Cs) (n : Nat) (l : Rps) : Prop where
  fix : C.cf = 1 ∧ C.id = 2 ∧ C.stamp = n + 1
  asked : ¬ C.asked = ⟨#[]⟩
  told : C.told = l
  len : C.ans.length = n
theorem Tried.waits (h : Tried C n l) : C.waits = true := by unfold Cs.waits; exact decide_eq_true h.asked
theorem Idle.ask (h : Idle C n) {s : ByteArray} (hs : ¬ s = ⟨#[]⟩) : Tried (C.ask s) n [] := ⟨⟨h.fix.1, h.fix.2.1, by show C.stamp + 1 = _; rw [h.fix.2.2]⟩, hs, h.told, h.len⟩
theorem Tried.inv (h : Tried C n l) (hl : l = [] ∨ l = [(0, exR)]) : CInv C := by
  refine ⟨?_, ?_, by rw [h.fix.1]; decide⟩
  · rw [h.told]; rcases hl with rfl | rfl <;> simp
  · rw [h.told, h.fix.1]; rcases hl with rfl | rfl <;> simp
theorem Tried.late (h : Tried C n l) : C.takes 0 2 (n + 1 + 1) = false ∧ C.hears 0 2 (n + 1 + 1) exR = C := by
  have e : C.takes 0 2 (n + 1 + 1) = false := by
    unfold Cs.takes
    rw [decide_eq_false, Bool.and_false]
    rintro ⟨_, ⟨_, h2⟩, _⟩
    rw [h.fix.2.2] at h2
    omega
  exact ⟨e, by unfold Cs.hears; rw [e]; rfl⟩
theorem Tried.other (h : Tried C n l) : C.takes 0 1 (n + 1) = false ∧ C.hears 0 1 (n + 1) exR = C := by
  have e : C.takes 0 1 (n + 1) = false := by
    unfold Cs.takes
    rw [decide_eq_false, Bool.and_false]
    rintro ⟨_, ⟨h2, _⟩, _⟩
    rw [h.fix.2.1] at h2
    omega
  exact ⟨e, by unfold Cs.hears; rw [e]; rfl⟩
theorem Tried.first (h : Tried C n []) : C.takes 0 2 (n + 1) = true ∧ Tried (C.hears 0 2 (n + 1) exR) n [(0, exR)] := by
  have e : C.takes 0 2 (n + 1) = true := by
    unfold Cs.takes
    rw [h.waits, Bool.true_and]
    refine decide_eq_true ⟨by rw [h.fix.1]; decide, ⟨h.fix.2.1.symm, h.fix.2.2.symm⟩, by rw [h.told]; rfl⟩
  have e2 : C.hears 0 2 (n + 1) exR = { C with told := C.told ++ [(0, exR)] } := by
    unfold Cs.hears
    rw [e, if_pos rfl, hear_no]
    rw [h.told, h.fix.1]
    decide +kernel
  refine ⟨e, ?_⟩
  rw [e2]
  exact ⟨h.fix, h.asked, by show C.told ++ _ = _; rw [h.told]; rfl, h.len⟩
theorem Tried.last (h : Tried C n [(0, exR)]) : C.takes 3 2 (n + 1) = true ∧ Idle (C.hears 3 2 (n + 1) exR) (n + 1) ∧ (C.hears 3 2 (n + 1) exR).ans = C.ans ++ [((n : Int) + 1, exR)] := by
  have e : C.takes 3 2 (n + 1) = true := by
    unfold Cs.takes
    rw [h.waits, Bool.true_and]
    refine decide_eq_true ⟨by rw [h.fix.1]; decide, ⟨h.fix.2.1.symm, h.fix.2.2.symm⟩, by rw [h.told]; rfl⟩
  have e2 : C.hears 3 2 (n + 1) exR = { C with told := [], asked := ⟨#[]⟩, ans := C.ans ++ [(C.stamp, exR)] } := by
    unfold Cs.hears
    rw [e, if_pos rfl, hear_yes]
    rw [h.told, h.fix.1]
    decide +kernel
  refine ⟨e, ?_⟩
  rw [e2]
  exact ⟨⟨⟨h.fix.1, h.fix.2.1, by rw [h.fix.2.2]; norm_cast⟩, rfl, rfl, by simp [h.len]⟩, by rw [h.fix.2.2]⟩
theorem Idle.deaf (h : Idle C n) (who c st : Int) (t : ByteArray) : C.takes who c st = false ∧ C.hears who c st t = C := by
  have e : C.takes who c st = false := by unfold Cs.takes; rw [h.waits]; rfl
  exact ⟨e, by unfold Cs.hears; rw [e]; rfl⟩
theorem Idle.inv (h : Idle C n) : CInv C := ⟨by rw [h.told]; simp, fun z hz => (by rw [h.told] at hz; exact absurd hz (List.not_mem_nil)), by rw [h.fix.1]; decide⟩

set_option maxHeartbeats 8000000 in
set_option maxRecDepth 100000 in
theorem stamps_calls (v : Value) (l : List ByteArray) (w : World) (hl : Elems 1 (fun s : ByteArray => [.string s]) (fun s => s.size ≤ 140737488351232) w v l) (hz : l.length * 16 ≤ 140737488351232) : Calls Try.prog 4 #[v] w fun e w' => e = .returned (.bool true) ∧ Below w.heap.size w w' := by
  obtain ⟨a, cap, rfl, hc⟩ := hl.any
  have HC : Hid _ := hc
  have HNB : Hid _ := newBook_calls w
  have HAw : Hid _ := awake_calls
  have HCf : Hid _ := fun wx => config_calls 0 wx
  rw [show (1 : Int) + arn 0 4 = 1 from by decide] at HCf
  have hz2 : l.length ≤ 8796093022208 := by omega
  clear hl hc hz
  go_enter Try.func4, Try.ntmps4
  go_wp2_with fail
  refine Calls.mono HNB.out ?_
  rintro e w1 ⟨p, b, x, y, rfl, K1, b1, hp, hb, hx, hy⟩
  go_wp2_with fail
  refine (HCf.out _).mono ?_
  rintro e w2 ⟨rfl, b2⟩
  have HNw : Hid _ := new_ok 1 3 2 5 2 w w2 (chain b1 b2) ⟨hp, hb, hx, hy⟩ (K1.below b2) (by decide) (by decide) (by decide) (by decide)
  go_wp2_with fail
  refine Calls.mono HNw.out ?_
  rintro e w3 ⟨q, tm, rfl, H3, b3⟩
  have HI0 : Hid (Idle (cs0 1 3 2 5 2) 0) := ⟨⟨rfl, rfl, rfl⟩, rfl, rfl, rfl⟩
  clear HNw HNB HCf
  go_wp2
  go_loopw [6, 7] (fun nv iv wr => ∃ (k n : Nat) (S : List (Int × ByteArray)) (tc : Nat) (av : Value) (C : Cs), k ≤ l.length ∧ k ≤ 40 ∧ iv = .int .i64 k ∧ nv = .int .i64 n ∧ Hid (n ≤ k) ∧ Hid (S.length ≤ 10 * k) ∧ Hid (Idle C n) ∧ Hid (St w wr p b x y [] S q tm tc av C)) (fun _ iv _ => l.length - (intOf iv).toNat)
  case atStart => exact ⟨0, 0, [], 0, .slice none 0 0, _, Nat.zero_le _, Nat.zero_le _, rfl, rfl, Nat.le_refl _, by show _ ≤ _; simp, HI0.out, H3⟩
  case round =>
    obtain ⟨k, n, S, tc, av, C, hk, hk60, rfl, rfl, HNk, HSl, HI, HS⟩ := hrel
    by_cases hlt : k < l.length
    · have hd1 : decide ((k : Int) < l.length) = true := decide_eq_true (by omega)
      by_cases h40 : k < 40
      · have hd2 : decide ((k : Int) < 40) = true := decide_eq_true (by omega)
        obtain ⟨g, off, rfl, hcap, hg, hcell, hfit⟩ := HC.out k hlt
        have hB : Below w.heap.size w wr := HS.out.below
        have t0 : wr.cell? ⟨g, off + k, none⟩ = some (.string l[k]) := (hB.cell (p := ⟨g, off + k, none⟩) hg).trans (by have := hcell 0 _ rfl; simpa using this)
        obtain ⟨op, hop⟩ : ∃ op, l[k] = op := ⟨_, rfl⟩
        rw [hop] at t0 hfit
        clear hcell
        by_cases ho : 256 < op.size
        · have hd3 : decide (256 < (op.size : Int)) = true := decide_eq_true (by omega)
          go_wp2
          exact ⟨⟨k + 1, n, S, tc, av, C, by omega, by omega, by norm_cast, rfl, by show _ ≤ _; have := HNk.out; omega, by show _ ≤ _; have := HSl.out; omega, HI.out, HS.out⟩, by simp [intOf]; omega⟩
        · have hd3 : decide (256 < (op.size : Int)) = false := decide_eq_false (by omega)
          have hnk := HNk.out
          have en : IntKind.i64.wrap ((n : Int) + 1) = (n : Int) + 1 := wrapC (by omega) (by omega)
          have en2 : IntKind.i64.wrap ((n : Int) + 1 + 1) = (n : Int) + 1 + 1 := wrapC (by omega) (by omega)
          have en3 : IntKind.i64.wrap ((n : Int) + 1 - 1) = (n : Int) := by rw [show (n : Int) + 1 - 1 = n by omega]; exact wrapC (by omega) (by omega)
          have HRq : Hid _ := request_ok op wr HS.out (by have := HSl.out; omega) 1 HI.out.fix.1 (by decide) (by rw [HI.out.fix.2.1]; decide) (by rw [HI.out.fix.2.2]; omega) (by omega) HI.out.waits
          generalize hs : (⟨(sgB (sgM S (100 + C.id) (smB 1 C.id (C.stamp + 1) op))).toArray⟩ : ByteArray) = s at HRq
          have hT := HI.out.ask (s := s) (by rw [← hs]; exact sgB_full _)
          have hsl := note_len S (100 + C.id, byS (smB 1 C.id (C.stamp + 1) op))
          generalize note S (100 + C.id, byS (smB 1 C.id (C.stamp + 1) op)) = S1 at HRq hsl
          have HL1 : Hid (S1.length ≤ 10 * k + 1) := by show _ ≤ _; have := HSl.out; omega
          have HT : Hid (Tried (C.ask s) n []) := hT
          generalize C.ask s = C1 at *
          clear hs hsl hT hnk
          go_wp2_with fail
          refine Calls.mono HRq.out ?_
          rintro e w4 ⟨v, rfl, -, H4, k4⟩
          clear HRq t0
          -- HEAD OF round
          have HR0 : Hid _ := reply_calls 0 2 ((n : Int) + 1 + 1) exR w4 H4.book (by have := HL1.out; omega) (by decide) (by decide) (by have := HNk.out; omega) (by decide)
          go_wp2_with fail
          refine Calls.mono HR0.out ?_
          rintro e w5 ⟨rfl, K5, o5⟩
          have H5 := H4.off2 K5 o5
          have HV0 : Hid _ := rcv_reply 0 2 ((n : Int) + 1 + 1) exR w5 H5 (by have := HL1.out; omega) (by decide) (by decide) (by have := HNk.out; omega) (by decide) (HT.out.inv (Or.inl rfl)) (by rw [HT.out.len]; have := HNk.out; omega)
          rw [HT.out.late.1, HT.out.late.2] at HV0
          have hl0 := note_len S1 (0, byS (smB 10 2 ((n : Int) + 1 + 1) exR))
          generalize note S1 (0, byS (smB 10 2 ((n : Int) + 1 + 1) exR)) = S2 at *
          have HL2 : Hid (S2.length ≤ 10 * k + 2) := by show _ ≤ _; have := HL1.out; omega
          clear hl0 HR0 K5 o5 H4
          go_wp2_with fail
          refine Calls.mono HV0.out ?_
          rintro e w6 ⟨rfl, tc0, av0, H6, k6⟩
          clear HV0 H5
          have HR1 : Hid _ := reply_calls 0 1 ((n : Int) + 1) exR w6 H6.book (by have := HL2.out; omega) (by decide) (by decide) (by have := HNk.out; omega) (by decide)
          go_wp2_with fail
          refine Calls.mono HR1.out ?_
          rintro e w7 ⟨rfl, K7, o7⟩
          have H7 := H6.off2 K7 o7
          have HV1 : Hid _ := rcv_reply 0 1 ((n : Int) + 1) exR w7 H7 (by have := HL2.out; omega) (by decide) (by decide) (by have := HNk.out; omega) (by decide) (HT.out.inv (Or.inl rfl)) (by rw [HT.out.len]; have := HNk.out; omega)
          rw [HT.out.other.1, HT.out.other.2] at HV1
          have hl1 := note_len S2 (0, byS (smB 10 1 ((n : Int) + 1) exR))
          generalize note S2 (0, byS (smB 10 1 ((n : Int) + 1) exR)) = S3 at *
          have HL3 : Hid (S3.length ≤ 10 * k + 3) := by show _ ≤ _; have := HL2.out; omega
          clear hl1 HR1 K7 o7 H6
          go_wp2_with fail
          refine Calls.mono HV1.out ?_
          rintro e w8 ⟨rfl, tc1, av1, H8, k8⟩
          clear HV1 H7
          have HR2 : Hid _ := reply_calls 0 2 ((n : Int) + 1) exR w8 H8.book (by have := HL3.out; omega) (by decide) (by decide) (by have := HNk.out; omega) (by decide)
          go_wp2_with fail
          refine Calls.mono HR2.out ?_
          rintro e w9 ⟨rfl, K9, o9⟩
          have H9 := H8.off2 K9 o9
          have HV2 : Hid _ := rcv_reply 0 2 ((n : Int) + 1) exR w9 H9 (by have := HL3.out; omega) (by decide) (by decide) (by have := HNk.out; omega) (by decide) (HT.out.inv (Or.inl rfl)) (by rw [HT.out.len]; have := HNk.out; omega)
          rw [HT.out.first.1] at HV2
          have HT2 : Hid (Tried (C1.hears 0 2 ((n : Int) + 1) exR) n [(0, exR)]) := HT.out.first.2
          generalize C1.hears 0 2 ((n : Int) + 1) exR = C2 at *
          have hl2 := note_len S3 (0, byS (smB 10 2 ((n : Int) + 1) exR))
          generalize note S3 (0, byS (smB 10 2 ((n : Int) + 1) exR)) = S4 at *
          have HL4 : Hid (S4.length ≤ 10 * k + 4) := by show _ ≤ _; have := HL3.out; omega
          clear hl2 HR2 K9 o9 H8
          go_wp2_with fail
          refine Calls.mono HV2.out ?_
          rintro e w10 ⟨rfl, tc2, av2, H10, k10⟩
          clear HV2 H9
          have HR3 : Hid _ := reply_calls 3 2 ((n : Int) + 1) exR w10 H10.book (by have := HL4.out; omega) (by decide) (by decide) (by have := HNk.out; omega) (by decide)
          go_wp2_with fail
          refine Calls.mono HR3.out ?_
          rintro e w11 ⟨rfl, K11, o11⟩
          have H11 := H10.off2 K11 o11
          have HV3 : Hid _ := rcv_reply 3 2 ((n : Int) + 1) exR w11 H11 (by have := HL4.out; omega) (by decide) (by decide) (by have := HNk.out; omega) (by decide) (HT2.out.inv (Or.inr rfl)) (by rw [HT2.out.len]; have := HNk.out; omega)
          rw [HT2.out.last.1] at HV3
          have HI3 : Hid (Idle (C2.hears 3 2 ((n : Int) + 1) exR) (n + 1)) := HT2.out.last.2.1
          have HA3 : Hid ((C2.hears 3 2 ((n : Int) + 1) exR).ans = C2.ans ++ [((n : Int) + 1, exR)]) := HT2.out.last.2.2
          generalize C2.hears 3 2 ((n : Int) + 1) exR = C3 at *
          have hl3 := note_len S4 (3, byS (smB 10 2 ((n : Int) + 1) exR))
          generalize note S4 (3, byS (smB 10 2 ((n : Int) + 1) exR)) = S5 at *
          have HL5 : Hid (S5.length ≤ 10 * k + 5) := by show _ ≤ _; have := HL4.out; omega
          clear hl3 HR3 K11 o11 H10
          go_wp2_with fail
          refine Calls.mono HV3.out ?_
          rintro e w12 ⟨rfl, tc3, av3, H12, k12⟩
          clear HV3 H11
          have HR4 : Hid _ := reply_calls 1 2 ((n : Int) + 1) exR w12 H12.book (by have := HL5.out; omega) (by decide) (by decide) (by have := HNk.out; omega) (by decide)
          go_wp2_with fail
          refine Calls.mono HR4.out ?_
          rintro e w13 ⟨rfl, K13, o13⟩
          have H13 := H12.off2 K13 o13
          have HV4 : Hid _ := rcv_reply 1 2 ((n : Int) + 1) exR w13 H13 (by have := HL5.out; omega) (by decide) (by decide) (by have := HNk.out; omega) (by decide) HI3.out.inv (by rw [HI3.out.len]; have := HNk.out; omega)
          rw [(HI3.out.deaf 1 2 ((n : Int) + 1) exR).1, (HI3.out.deaf 1 2 ((n : Int) + 1) exR).2] at HV4
          have hl4 := note_len S5 (1, byS (smB 10 2 ((n : Int) + 1) exR))
          generalize note S5 (1, byS (smB 10 2 ((n : Int) + 1) exR)) = S6 at *
          have HL6 : Hid (S6.length ≤ 10 * k + 6) := by show _ ≤ _; have := HL5.out; omega
          clear hl4 HR4 K13 o13 H12
          go_wp2_with fail
          refine Calls.mono HV4.out ?_
          rintro e w14 ⟨rfl, tc4, av4, H14, k14⟩
          clear HV4 H13
          have HA : Hid _ := answers_calls w14 H14 (by rw [HI3.out.len]; have := HNk.out; omega)
          rw [HI3.out.len, HA3.out, anC_snoc] at HA
          go_wp2_with fail
          refine Calls.mono HA.out ?_
          rintro e w20 ⟨v20, rfl, ho, b20⟩
          have H20 := H14.keep b20
          obtain ⟨g20, cap20, rfl, hg20, hcap20, hcell20⟩ := own_at ho (by omega)
          have r0 : w20.cell? ⟨g20, n * 2, none⟩ = some (.int .i64 ((n : Int) + 1)) := hcell20 (n * 2) _ (by
            have h2 : (anC C2.ans).length = n * 2 := by rw [anC_len, HT2.out.len]
            rw [List.getElem?_append_right (by omega), h2]
            simp)
          have HF : Hid _ := H20
          have en4 : IntKind.i64.wrap (n : Int) = (n : Int) := wrapC (by have := HNk.out; omega) (by have := HNk.out; omega)
          have hn0 : (0 : Int) ≤ (n : Int) := by omega
          have hn1 : (n : Int) < ((n + 1 : Nat) : Int) := by omega
          have hn2 : (n : Int) < (n : Int) + 1 := by omega
          have hn3 : (n : Int).toNat = n := by omega
          clear hcell20 ho HA H14 H20
          go_wp2
          exact ⟨⟨k + 1, n + 1, S6, _, _, C3, by omega, by omega, by norm_cast, by norm_cast, by show _ ≤ _; have := HNk.out; omega, by show _ ≤ _; have := HL6.out; omega, HI3.out, HF.out⟩, by simp [intOf]; omega⟩
      · have hd2 : decide ((k : Int) < 40) = false := decide_eq_false (by omega)
        have HB : Hid _ := HS.out.below
        go_wp2_with fail
        refine Calls.mono (HAw.out _) ?_
        rintro e w9 ⟨rfl, b9⟩
        go_wp2
        go_ret
        exact ⟨rfl, HB.out.trans (b9.mono HB.out.size)⟩
    · have hd1 : decide ((k : Int) < l.length) = false := decide_eq_false (by omega)
      have HB : Hid _ := HS.out.below
      go_wp2_with fail
      refine Calls.mono (HAw.out _) ?_
      rintro e w9 ⟨rfl, b9⟩
      go_wp2
      go_ret
      exact ⟨rfl, HB.out.trans (b9.mono HB.out.size)⟩
end Go.Proofs.Ytgjcdlifgaclmaa
