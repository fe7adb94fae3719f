/- The library's stable sort at orders: one sorted by inserting. -/
import Derived.Test.YtgofjheoebabeaaGreatDoorHn17
namespace Go.Proofs.YtgofjheoebabeaaGreatDoor.Cal
open Go.Shelf Go.RowKit Go.Lib Go.Sort
set_option linter.unusedSimpArgs false
set_option linter.unusedVariables false

theorem insS_eq {α : Type} {lt : α → α → Bool} {x : α} : ∀ (s1 s2 : List α), (∀ y ∈ s1, lt x y = false) → (∀ y ∈ s2, lt x y = true) → insS lt x (s1 ++ s2) = s1 ++ x :: s2
  | [], [], _, _ => rfl
  | [], y :: t, _, h => by
    show insS lt x (y :: t) = x :: y :: t
    rw [insS, if_pos (h y (List.mem_cons_self ..))]
  | y :: s1, s2, h1, h2 => by
    show insS lt x (y :: (s1 ++ s2)) = y :: (s1 ++ x :: s2)
    rw [insS, if_neg (by rw [h1 y (List.mem_cons_self ..)]; simp), insS_eq s1 s2 (fun z hz => h1 z (List.mem_cons_of_mem _ hz)) h2]
theorem srt_last {α : Type} {lt : α → α → Bool} (hO : SWO lt) {x y : α} {s : List α} (h : Srt lt (s ++ [y])) (hy : lt x y = false) : ∀ z ∈ s ++ [y], lt x z = false := by
  intro z hz
  rcases List.mem_append.1 hz with e | e
  · exact hO.ntrans x y z hy (h.cross z e y (List.mem_singleton.2 rfl))
  · rw [List.mem_singleton.1 e]; exact hy

set_option maxHeartbeats 8000000 in
set_option maxRecDepth 1000000 in
theorem ins_calls (k : Nat) (aE : ∀ w, (isAgg 105).run Tryz.prog w = .ok true w) (zE : ∀ w, (Go.sizeOf 105).run Tryz.prog w = .ok k w) (cf : Od → Od → Int) (hO : SWO (ltOf cf)) (g : Nat) (cb : Array Value) (blk off cap : Nat) (a b : Nat) (d0 d : Array Od) (w0 w : World) (eg : ∀ args w, (callFunc g args).run Tryz.prog w = .ok (.enter g args) w) (hcmp : CmpLays Tryz.prog g cb oC k cf blk off d0.size w0) (R : RowK oC k w0 blk off d0) (hs : d0.size = d.size) (S : SWK oC k w0 blk off d w) (A X C : List Od)
    (hd : d.toList = A ++ X ++ C) (ha : a = A.length) (hb : b = A.length + X.length) (hsz : d.size < 1000000) :
    Calls Tryz.prog 178 #[.slice (some ⟨blk, off, none⟩) d.size cap, .int .i64 a, .int .i64 b, .func (.func g) #[] cb] w fun e w' => e = .returned (.tuple #[]) ∧ ∃ d' : Array Od, d'.toList = A ++ stab (ltOf cf) X ++ C ∧ SWK oC k w0 blk off d' w' := by
  have mixed : Tryz.prog.follows .mixedOrders = true := by kernel_rfl
  have hsd := size_of hd
  simp only [List.length_append] at hsd
  have S0 : Aside (SWK oC k w0 blk off d w) := S
  have HC : Aside _ := hcmp
  have HD : Hid _ := hd
  have HA : Hid (a = A.length ∧ b = A.length + X.length ∧ d.size = A.length + X.length + C.length) := ⟨ha, hb, hsd⟩
  have hab : a ≤ b := by omega
  have hbd : b ≤ d.size := by omega
  have HH : Hid _ := hO
  clear S hcmp hd ha hb hsd hO
  go_enter Tryz.func178, Tryz.ntmps178
  go_wp2
  go_loopg [8] (b - a) (fun g1 vi wr => ∃ (i : Nat) (dk : Array Od), vi = .int .i64 i ∧ a < i ∧ i ≤ b + 1 ∧ b + 1 - i ≤ g1 + 1 ∧ dk.size = d.size ∧ Hid (∃ X1 X2, X = X1 ++ X2 ∧ (i ≤ b → X1.length + a = i) ∧ (b < i → X2 = []) ∧ dk.toList = A ++ stab (ltOf cf) X1 ++ X2 ++ C) ∧ Aside (SWK oC k w0 blk off dk wr))
  case atStart =>
    refine ⟨a + 1, d, by go_num, by omega, by omega, by omega, rfl, ?_, S0⟩
    obtain ⟨e1, e2, e3⟩ := HA.out
    cases X with
    | nil => exact ⟨[], [], rfl, fun h => by simp at e2; omega, fun _ => rfl, by simpa [stab] using HD.out⟩
    | cons x t => exact ⟨[x], t, rfl, fun h => by simp; omega, fun h => by simp at e2; exact List.eq_nil_of_length_eq_zero (by omega), by simpa [stab, insS] using HD.out⟩
  case round =>
    clear S0
    obtain ⟨i, dk, rfl, hai, hib, hg1, hsk, HO, S1⟩ := hrel
    by_cases hlt : i < b
    · have hltz : (i : Int) < (b : Int) := by omega
      obtain ⟨X1, X2, hX, hX1, -, hdk⟩ := HO.out
      obtain ⟨x, X3, rfl⟩ : ∃ x X3, X2 = x :: X3 := by
        cases X2 with
        | nil => exfalso; have h1 := HA.out.2.1; have h2 := hX1 (by omega); rw [hX] at h1; simp at h1; have := HA.out.1; omega
        | cons x t => exact ⟨x, t, rfl⟩
      have HX : Hid (X = X1 ++ x :: X3 ∧ X1.length + a = i ∧ dk.toList = A ++ stab (ltOf cf) X1 ++ x :: X3 ++ C) := ⟨hX, hX1 (by omega), hdk⟩
      have HT : Hid ((stab (ltOf cf) X1).length = X1.length) := by
        have e1 := size_of hdk; have e2 := size_of HD.out; rw [hX] at e2; simp at e1 e2; show _ = _; omega
      clear hX hX1 hdk HO
      go_wp2
      go_loopg [9] i (fun g2 vj wr2 => ∃ (j : Nat) (dj : Array Od), vj = .int .i64 j ∧ a ≤ j ∧ j ≤ i ∧ j ≤ g2 ∧ dj.size = d.size ∧ Hid (∃ S1 S2, S1.length + a = j ∧ stab (ltOf cf) X1 = S1 ++ S2 ∧ (∀ y ∈ S2, ltOf cf x y = true) ∧ dj.toList = (A ++ S1) ++ x :: (S2 ++ X3 ++ C)) ∧ Aside (SWK oC k w0 blk off dj wr2))
      case atStart =>
        refine ⟨i, dk, rfl, by omega, Nat.le_refl _, Nat.le_refl _, hsk, ⟨stab (ltOf cf) X1, [], by rw [HT.out]; exact HX.out.2.1, by simp, by simp, by rw [HX.out.2.2]; simp⟩, S1⟩
      case round =>
        clear S1
        obtain ⟨j, dj, rfl, haj, hji, hg2, hsj, HI, S1⟩ := hrel
        by_cases hja : a < j
        · obtain ⟨s1, s2, h1, h2, h3, h4⟩ := HI.out
          obtain ⟨jp, rfl⟩ : ∃ jp, j = jp + 1 := ⟨j - 1, by omega⟩
          obtain ⟨s0, y, rfl⟩ : ∃ s0 y, s1 = s0 ++ [y] := by
            rcases List.eq_nil_or_concat s1 with e | ⟨s0, y, e⟩
            · exfalso; rw [e] at h1; simp at h1; omega
            · exact ⟨s0, y, by simpa using e⟩
          have HK : Hid (s0.length + a = jp ∧ stab (ltOf cf) X1 = s0 ++ [y] ++ s2 ∧ (∀ y ∈ s2, ltOf cf x y = true) ∧ dj.toList = (A ++ s0) ++ y :: ([] ++ x :: (s2 ++ X3 ++ C))) := ⟨by simp at h1; omega, h2, h3, by rw [h4]; simp⟩
          have hxj : dj[jp + 1]! = x := get_mid h4 (by simp; have := HA.out.1; simp at h1; omega)
          have hxp : dj[jp]! = y := get_mid HK.out.2.2.2 (by simp; have := HA.out.1; have := HK.out.1; omega)
          have HXJ : Hid _ := hxj
          have HXP : Hid _ := hxp
          clear h1 h2 h3 h4 HI hxj hxp
          have hwp : IntKind.i64.wrap (jp : Int) = (jp : Int) := by rw [IntKind.wrap_i64]; omega
          have hjaz' : (a : Int) < (jp : Int) + 1 := by omega
          have hjad : decide ((a : Int) < (jp : Int) + 1) = true := decide_eq_true hjaz'
          by_cases hlv : cf x y < 0
          · have ea40 : ((jp : Int) + 1).toNat = jp + 1 := by omega
            have pa40 : (0 : Int) ≤ (jp : Int) + 1 := by omega
            have ba40 : (jp : Int) + 1 < (d.size : Int) := by omega
            have ra40 : IntKind.i64.wrap ((jp : Int) + 1) = (jp : Int) + 1 := by rw [IntKind.wrap_i64]; omega
            have ec40 : ((jp : Int)).toNat = jp := by omega
            have pc40 : (0 : Int) ≤ (jp : Int) := by omega
            have bc40 : (jp : Int) < (d.size : Int) := by omega
            have rc40 : IntKind.i64.wrap ((jp : Int)) = (jp : Int) := by rw [IntKind.wrap_i64]; omega
            have l40a := S1.out.ld R (by omega) Tryz.prog (jp + 1) (by omega)
            have l40b := S1.out.ld R (by omega) Tryz.prog (jp) (by omega)
            rw [HXJ.out] at l40a
            rw [HXP.out] at l40b
            have hc40 := S1.out.cmp HC.out (by omega) x y
            have hd40 : decide (cf x y < 0) = true := by exact decide_eq_true hlv
            go_wp2_with fail
            go_quiet_grown (first | (go_at_fn g; refine Calls.grown_of (hc40 _ _)))
            have S2 : Aside (SWK oC k w0 blk off dj (grow (wr.drewN nq) osq)) := S1.out.grown nq osq
            clear l40a l40b hc40 S1
            generalize grow (wr.drewN nq) osq = w2 at S2 ⊢
            clear nq osq
            have S3 : Aside (SWK oC k w0 blk off (swp dj (jp + 1) (jp)) ((w2.drew.setCells blk (off + (jp + 1) * k) (oC dj[jp]!)).setCells blk (off + (jp) * k) (oC dj[jp + 1]!))) := S2.out.swapped R (jp + 1) (jp) (by omega) (by omega)
            have l41a := S2.out.ld1 R (by omega) Tryz.prog (jp + 1) (by omega)
            have l41b := S2.out.ld1 R (by omega) Tryz.prog (jp) (by omega)
            have s41a := S2.out.st1 R (by omega) Tryz.prog (jp + 1) (by omega) dj[jp]!
            have s41b := S2.out.st2 R (by omega) Tryz.prog (jp + 1) (jp) (by omega) (by omega) dj[jp]! dj[jp + 1]!
            have n41a : (oC dj[jp + 1]!).length = k := R.hk _
            have n41b : (oC dj[jp]!).length = k := R.hk _
            generalize oC dj[jp + 1]! = cI41 at S3 l41a s41b n41a
            generalize oC dj[jp]! = cJ41 at S3 l41b s41a s41b n41b
            clear S2
            go_wp2_with fail
            go_big_region_o
            clear l41a l41b s41a s41b
            generalize (w2.drew.setCells blk (off + (jp + 1) * k) cJ41).setCells blk (off + (jp) * k) cI41 = w3 at S3 ⊢
            go_wp2
            go_roundg jp
            case measure => omega
            case rel =>
              refine ⟨jp, swp dj (jp + 1) jp, by first | rfl | go_num | (congr 1; omega), by omega, by omega, Nat.le_refl _, by rw [size_swp]; exact hsj, ?_, S3⟩
              obtain ⟨h1, h2, h3, h4⟩ := HK.out
              have e1 : jp = (A ++ s0).length := by simp; have := HA.out.1; omega
              refine ⟨s0, y :: s2, h1, by rw [h2]; simp, ?_, by rw [swp_comm' h4 e1 (by simp at e1 ⊢; omega)]; simp⟩
              intro z hz
              rcases List.mem_cons.1 hz with e | e
              · rw [e]; exact decide_eq_true hlv
              · exact h3 z e
          · have ea42 : ((jp : Int) + 1).toNat = jp + 1 := by omega
            have pa42 : (0 : Int) ≤ (jp : Int) + 1 := by omega
            have ba42 : (jp : Int) + 1 < (d.size : Int) := by omega
            have ra42 : IntKind.i64.wrap ((jp : Int) + 1) = (jp : Int) + 1 := by rw [IntKind.wrap_i64]; omega
            have ec42 : ((jp : Int)).toNat = jp := by omega
            have pc42 : (0 : Int) ≤ (jp : Int) := by omega
            have bc42 : (jp : Int) < (d.size : Int) := by omega
            have rc42 : IntKind.i64.wrap ((jp : Int)) = (jp : Int) := by rw [IntKind.wrap_i64]; omega
            have l42a := S1.out.ld R (by omega) Tryz.prog (jp + 1) (by omega)
            have l42b := S1.out.ld R (by omega) Tryz.prog (jp) (by omega)
            rw [HXJ.out] at l42a
            rw [HXP.out] at l42b
            have hc42 := S1.out.cmp HC.out (by omega) x y
            have hd42 : decide (cf x y < 0) = false := by simp only [decide_eq_false_iff_not]; omega
            go_wp2_with fail
            go_quiet_grown (first | (go_at_fn g; refine Calls.grown_of (hc42 _ _)))
            have S2 : Aside (SWK oC k w0 blk off dj (grow (wr.drewN nq) osq)) := S1.out.grown nq osq
            clear l42a l42b hc42 S1
            generalize grow (wr.drewN nq) osq = w2 at S2 ⊢
            clear nq osq
            go_wp2
            go_roundg (b - (i + 1))
            case measure => omega
            case rel =>
              refine ⟨i + 1, dj, by go_num, by omega, by omega, by omega, hsj, ?_, S2⟩
              obtain ⟨h1, h2, h3, h4⟩ := HK.out
              obtain ⟨f1, f2, f3⟩ := HX.out
              refine ⟨X1 ++ [x], X3, by rw [f1]; simp, fun _ => by simp; omega, fun h => by omega, ?_⟩
              rw [stab_snoc, h2, insS_eq (s0 ++ [y]) s2 (srt_last HH.out (by have := stab_srt HH.out X1; rw [h2] at this; exact this.left) (decide_eq_false (by omega))) h3, h4]
              simp
        · have hjaz : decide ((j : Int) > (a : Int)) = false := decide_eq_false (by omega)
          have hjaz' : ¬ (a : Int) < (j : Int) := by omega
          have S2 : Aside (SWK oC k w0 blk off dj wr.drew) := S1.out.drew
          clear S1
          go_wp2_with fail
          go_big_region_o
          all_goals go_wp2
          go_roundg (b - (i + 1))
          case measure => omega
          case rel =>
            refine ⟨i + 1, dj, by go_num, by omega, by omega, by omega, hsj, ?_, S2⟩
            obtain ⟨s1, s2, h1, h2, h3, h4⟩ := HI.out
            obtain ⟨f1, f2, f3⟩ := HX.out
            have hz : s1 = [] := List.eq_nil_of_length_eq_zero (by omega)
            subst hz
            refine ⟨X1 ++ [x], X3, by rw [f1]; simp, fun _ => by simp; omega, fun h => by omega, ?_⟩
            rw [stab_snoc, h2, insS_eq [] s2 (by simp) h3, h4]
            simp
    · have hltz : ¬ (i : Int) < (b : Int) := by omega
      go_wp2
      go_end0
      refine ⟨rfl, dk, ?_, S1.out⟩
      obtain ⟨X1, X2, hX, hX1, hX2, hdk⟩ := HO.out
      have hz : X2 = [] := by
        rcases Nat.lt_or_ge b i with h | h
        · exact hX2 h
        · have e := hX1 h; have e1 := HA.out.1; have e2 := HA.out.2.1; rw [hX] at e2; simp at e2
          exact List.eq_nil_of_length_eq_zero (by omega)
      subst hz
      rw [hdk, hX]; simp
end Go.Proofs.YtgofjheoebabeaaGreatDoor.Cal
