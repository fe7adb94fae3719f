/- The library's stable sort at orders: two sorted runs merged, where one has one element. -/
import Derived.Test.YtpekfpfhonechaaGreatWa15
namespace Go.Proofs.YtpekfpfhonechaaGreat.Cal
open Go.Shelf Go.RowKit Go.Lib Go.Sort
set_option linter.unusedSimpArgs false
set_option linter.unusedVariables false

theorem lt_of_le_lt {α : Type} {lt : α → α → Bool} (hO : SWO lt) {x y z : α} (h : lt y x = false) (k : lt y z = true) : lt x z = true := by
  cases hx : lt x z
  · rw [hO.ntrans y x z h hx] at k; cases k
  · rfl
theorem lt_of_lt_le {α : Type} {lt : α → α → Bool} (hO : SWO lt) {x y z : α} (h : lt x y = true) (k : lt z y = false) : lt x z = true := by
  cases hx : lt x z
  · rw [hO.ntrans x z y hx k] at h; cases h
  · rfl
/-- Around an element of a sorted list. -/
theorem srt_mid {α : Type} {lt : α → α → Bool} {P Q : List α} {y : α} (h : Srt lt (P ++ y :: Q)) : (∀ z ∈ P, lt y z = false) ∧ (∀ z ∈ Q, lt z y = false) :=
  ⟨fun z hz => h.cross z hz y (List.mem_cons_self ..), fun z hz => (List.pairwise_cons.1 h.right).1 z hz⟩

set_option maxHeartbeats 8000000 in
set_option maxRecDepth 1000000 in
theorem sym_one (k : Nat) (aE : ∀ w, (isAgg 51).run Tryz.prog w = .ok true w) (zE : ∀ w, (Go.sizeOf 51).run Tryz.prog w = .ok k w) (cf : Od → Od → Int) (hO : SWO (ltOf cf)) (g : Nat) (cb : Array Value) (blk off cap : Nat) (a m b : Nat) (d0 d : Array Od) (w0 w : World) (eg : ∀ args w, (callFunc g args).run Tryz.prog w = .ok (.enter g args) w) (hcmp : CmpLays Tryz.prog g cb oC k cf blk off d0.size w0) (R : RowK oC k w0 blk off d0) (hs : d0.size = d.size) (S : SWK oC k w0 blk off d w) (A U V C : List Od)
    (hd : d.toList = A ++ U ++ V ++ C) (ha : a = A.length) (hm : m = A.length + U.length) (hb : b = A.length + U.length + V.length) (sU : Srt (ltOf cf) U) (sV : Srt (ltOf cf) V) (hsz : d.size < 1000000) (x : Od) (hx1 : U = [x]) :
    Calls Tryz.prog 157 #[.slice (some ⟨blk, off, none⟩) d.size cap, .int .i64 a, .int .i64 m, .int .i64 b, .func (.func g) #[] cb] w fun e w' => e = .returned (.tuple #[]) ∧ ∃ (d' : Array Od) (r : List Od), d'.toList = A ++ r ++ C ∧ Srt (ltOf cf) r ∧ Stb (ltOf cf) (U ++ V) r ∧ r.length = U.length + V.length ∧ SWK oC k w0 blk off d' w' := by
  have mixed : Tryz.prog.follows .mixedOrders = true := by kernel_rfl
  have hsd := size_of hd
  simp only [List.length_append] at hsd
  have S0 : Aside (SWK oC k w0 blk off d w) := S
  have HC : Aside _ := hcmp
  have HD : Hid _ := hd
  have HA : Hid (a = A.length ∧ m = A.length + U.length ∧ b = A.length + U.length + V.length ∧ d.size = A.length + U.length + V.length + C.length) := ⟨ha, hm, hb, hsd⟩
  have HH : Hid _ := hO
  have HU : Hid _ := sU
  have HV : Hid _ := sV
  subst hx1
  have c0 : (m : Int) - (a : Int) = 1 := by simp at hm; omega
  have ham : a < m := by omega
  have hmb : m ≤ b := by omega
  have hbd : b ≤ d.size := by omega
  have hxa : d[a]! = x := get_mid (A := A) (C := V ++ C) (by rw [hd]; simp) ha
  have HX : Hid _ := hxa
  clear S hcmp hd ha hm hb hsd hO sU sV hxa
  go_enter Tryz.func157, Tryz.ntmps157
  go_wp2
  go_loopg [10, 11] (b - m) (fun g1 vi vj wr => ∃ (i j : Nat), vi = .int .i64 i ∧ vj = .int .i64 j ∧ m ≤ i ∧ i ≤ j ∧ j ≤ b ∧ j - i ≤ g1 ∧ Hid (∃ V1 V2 V3, V = V1 ++ V2 ++ V3 ∧ V1.length + m = i ∧ V2.length + i = j ∧ (∀ y ∈ V1, ltOf cf y x = true) ∧ (∀ y ∈ V3, ltOf cf y x = false)) ∧ Aside (SWK oC k w0 blk off d wr))
  case atStart => exact ⟨m, b, rfl, rfl, Nat.le_refl _, hmb, Nat.le_refl _, Nat.le_refl _, ⟨[], V, [], by simp, by simp, by have := HA.out; omega, by simp, by simp⟩, S0⟩
  case round =>
    clear S0
    obtain ⟨i, j, rfl, rfl, hmi, hij, hjb, hg1, HI, S1⟩ := hrel
    by_cases hlt : i < j
    · have hltz : (i : Int) < (j : Int) := by omega
      have hmid : ((i : Int) + (j : Int)) / 2 = (((i + j) / 2 : Nat) : Int) := by omega
      obtain ⟨h, hh⟩ : ∃ h, (i + j) / 2 = h := ⟨_, rfl⟩
      have hih : i ≤ h := by omega
      have hhj : h < j := by omega
      rw [hh] at hmid
      clear hh
      obtain ⟨V1, V2, V3, e1, e2, e3, e4, e5⟩ := HI.out
      obtain ⟨P, y, Q, f1, f2⟩ : ∃ P y Q, V2 = P ++ y :: Q ∧ P.length = h - i := cut_at (by omega)
      have HE : Hid (V = (V1 ++ P) ++ y :: (Q ++ V3) ∧ V1.length + m = i ∧ P.length + i = h ∧ Q.length + h + 1 = j ∧ (∀ y ∈ V1, ltOf cf y x = true) ∧ (∀ y ∈ V3, ltOf cf y x = false)) :=
        ⟨by rw [e1, f1]; simp, e2, by omega, by rw [f1] at e3; simp at e3; omega, e4, e5⟩
      have hyh : d[h]! = y := get_mid (A := A ++ [x] ++ V1 ++ P) (C := Q ++ V3 ++ C) (by rw [HD.out, HE.out.1]; simp) (by have := HA.out; simp at this ⊢; omega)
      have HY : Hid _ := hyh
      have HM : Hid _ := srt_mid (lt := ltOf cf) (P := V1 ++ P) (y := y) (Q := Q ++ V3) (by have := HV.out; rw [HE.out.1] at this; exact this)
      clear e1 e2 e3 e4 e5 f1 f2 hyh HI
      by_cases hlv : cf y x < 0
      · go_wp2_with fail
        have ea40 : ((h : Int)).toNat = h := by omega
        have pa40 : (0 : Int) ≤ (h : Int) := by omega
        have ba40 : (h : Int) < (d.size : Int) := by omega
        have ra40 : IntKind.i64.wrap ((h : Int)) = (h : Int) := by rw [IntKind.wrap_i64]; omega
        have ec40 : ((a : Int)).toNat = a := by omega
        have pc40 : (0 : Int) ≤ (a : Int) := by omega
        have bc40 : (a : Int) < (d.size : Int) := by omega
        have rc40 : IntKind.i64.wrap ((a : Int)) = (a : Int) := by rw [IntKind.wrap_i64]; omega
        have l40a := S1.out.ld R (by omega) Tryz.prog (h) (by omega)
        have l40b := S1.out.ld R (by omega) Tryz.prog (a) (by omega)
        rw [HY.out] at l40a
        rw [HX.out] at l40b
        have hc40 := S1.out.cmp HC.out (by omega) y x
        have hd40 : decide (cf y x < 0) = true := by exact decide_eq_true hlv
        go_wp2_with fail
        go_quiet_grown (first | (go_at_fn g; refine Calls.grown_of (hc40 _ _)))
        have S2 : Aside (SWK oC k w0 blk off d (grow (wr.drewN nq) osq)) := S1.out.grown nq osq
        clear l40a l40b hc40 S1
        generalize grow (wr.drewN nq) osq = w2 at S2 ⊢
        clear nq osq
        go_wp2
        go_roundg (j - (h + 1))
        case measure => omega
        case rel =>
          obtain ⟨e1, e2, e3, e4, e5, e6⟩ := HE.out
          refine ⟨h + 1, j, by go_num, rfl, by omega, by omega, hjb, Nat.le_refl _, ⟨V1 ++ P ++ [y], Q, V3, by rw [e1]; simp, by simp; omega, by omega, ?_, e6⟩, S2⟩
          intro z hz
          rcases List.mem_append.1 hz with f | f
          · exact lt_of_le_lt HH.out (HM.out.1 z f) (decide_eq_true hlv)
          · rw [List.mem_singleton.1 f]; exact decide_eq_true hlv
      · go_wp2_with fail
        have ea41 : ((h : Int)).toNat = h := by omega
        have pa41 : (0 : Int) ≤ (h : Int) := by omega
        have ba41 : (h : Int) < (d.size : Int) := by omega
        have ra41 : IntKind.i64.wrap ((h : Int)) = (h : Int) := by rw [IntKind.wrap_i64]; omega
        have ec41 : ((a : Int)).toNat = a := by omega
        have pc41 : (0 : Int) ≤ (a : Int) := by omega
        have bc41 : (a : Int) < (d.size : Int) := by omega
        have rc41 : IntKind.i64.wrap ((a : Int)) = (a : Int) := by rw [IntKind.wrap_i64]; omega
        have l41a := S1.out.ld R (by omega) Tryz.prog (h) (by omega)
        have l41b := S1.out.ld R (by omega) Tryz.prog (a) (by omega)
        rw [HY.out] at l41a
        rw [HX.out] at l41b
        have hc41 := S1.out.cmp HC.out (by omega) y x
        have hd41 : decide (cf y x < 0) = false := by simp only [decide_eq_false_iff_not]; omega
        go_wp2_with fail
        go_quiet_grown (first | (go_at_fn g; refine Calls.grown_of (hc41 _ _)))
        have S2 : Aside (SWK oC k w0 blk off d (grow (wr.drewN nq) osq)) := S1.out.grown nq osq
        clear l41a l41b hc41 S1
        generalize grow (wr.drewN nq) osq = w2 at S2 ⊢
        clear nq osq
        go_wp2
        go_roundg (h - i)
        case measure => omega
        case rel =>
          obtain ⟨e1, e2, e3, e4, e5, e6⟩ := HE.out
          refine ⟨i, h, rfl, rfl, hmi, hih, by omega, Nat.le_refl _, ⟨V1, P, y :: Q ++ V3, by rw [e1]; simp, e2, e3, e5, ?_⟩, S2⟩
          intro z hz
          have hyx : ltOf cf y x = false := decide_eq_false (by omega)
          rcases List.mem_cons.1 hz with f | f
          · rw [f]; exact hyx
          · exact HH.out.ntrans z y x (HM.out.2 z f) hyx
    · have hltz : ¬ (i : Int) < (j : Int) := by omega
      obtain ⟨V1, V2, V3, e1, e2, e3, e4, e5⟩ := HI.out
      have hz : V2 = [] := List.eq_nil_of_length_eq_zero (by omega)
      subst hz
      have HE : Hid (V = V1 ++ V3 ∧ V1.length + m = i ∧ (∀ y ∈ V1, ltOf cf y x = true) ∧ (∀ y ∈ V3, ltOf cf y x = false)) := ⟨by rw [e1]; simp, e2, e4, e5⟩
      clear e1 e2 e3 e4 e5 HI
      have hib : i ≤ b := by omega
      go_wp2
      go_loopg [13] (i - m) (fun g2 vk wr2 => ∃ (q : Nat) (dk : Array Od), vk = .int .i64 q ∧ a ≤ q ∧ q < i ∧ i - 1 - q ≤ g2 ∧ dk.size = d.size ∧ Hid (∃ P Q, V1 = P ++ Q ∧ P.length + a = q ∧ dk.toList = (A ++ P) ++ x :: (Q ++ V3 ++ C)) ∧ Aside (SWK oC k w0 blk off dk wr2))
      case atStart => exact ⟨a, d, rfl, Nat.le_refl _, by omega, by omega, rfl, ⟨[], V1, rfl, by simp, by rw [HD.out, HE.out.1]; simp⟩, S1⟩
      case round =>
        clear S1
        obtain ⟨q, dk, rfl, haq, hqi, hg2, hds, HI, S1⟩ := hrel
        by_cases hqz : q < i - 1
        · have hqz1 : (q : Int) < (i : Int) - 1 := by omega
          obtain ⟨P, Q, e1, e2, e3⟩ := HI.out
          obtain ⟨y, Q2, rfl⟩ : ∃ y Q2, Q = y :: Q2 := by
            cases Q with
            | nil => exfalso; have h1 := HE.out.2.1; rw [e1] at h1; simp at h1; omega
            | cons y t => exact ⟨y, t, rfl⟩
          have HK : Hid (V1 = P ++ y :: Q2 ∧ P.length + a = q ∧ dk.toList = (A ++ P) ++ x :: ([] ++ y :: (Q2 ++ V3 ++ C))) := ⟨e1, e2, by rw [e3]; simp⟩
          clear e1 e2 e3 HI
          go_wp2_with fail
          have ea42 : ((q : Int)).toNat = q := by omega
          have pa42 : (0 : Int) ≤ (q : Int) := by omega
          have ba42 : (q : Int) < (d.size : Int) := by omega
          have ra42 : IntKind.i64.wrap ((q : Int)) = (q : Int) := by rw [IntKind.wrap_i64]; omega
          have ec42 : ((q : Int) + 1).toNat = q + 1 := by omega
          have pc42 : (0 : Int) ≤ (q : Int) + 1 := by omega
          have bc42 : (q : Int) + 1 < (d.size : Int) := by omega
          have rc42 : IntKind.i64.wrap ((q : Int) + 1) = (q : Int) + 1 := by rw [IntKind.wrap_i64]; omega
          have S2 : Aside (SWK oC k w0 blk off (swp dk (q) (q + 1)) ((wr.drew.setCells blk (off + (q) * k) (oC dk[q + 1]!)).setCells blk (off + (q + 1) * k) (oC dk[q]!))) := S1.out.swapped R (q) (q + 1) (by omega) (by omega)
          have l42a := S1.out.ld1 R (by omega) Tryz.prog (q) (by omega)
          have l42b := S1.out.ld1 R (by omega) Tryz.prog (q + 1) (by omega)
          have s42a := S1.out.st1 R (by omega) Tryz.prog (q) (by omega) dk[q + 1]!
          have s42b := S1.out.st2 R (by omega) Tryz.prog (q) (q + 1) (by omega) (by omega) dk[q + 1]! dk[q]!
          have n42a : (oC dk[q]!).length = k := R.hk _
          have n42b : (oC dk[q + 1]!).length = k := R.hk _
          generalize oC dk[q]! = cI42 at S2 l42a s42b n42a
          generalize oC dk[q + 1]! = cJ42 at S2 l42b s42a s42b n42b
          clear S1
          go_wp2_with fail
          go_big_region_o
          clear l42a l42b s42a s42b
          generalize (wr.drew.setCells blk (off + (q) * k) cJ42).setCells blk (off + (q + 1) * k) cI42 = w2 at S2 ⊢
          go_wp2
          go_roundg (i - 1 - (q + 1))
          case measure => omega
          case rel =>
            obtain ⟨e1, e2, e3⟩ := HK.out
            have f1 : q = (A ++ P).length := by have := HA.out.1; simp; omega
            refine ⟨q + 1, swp dk q (q + 1), by go_num, by omega, by omega, Nat.le_refl _, by rw [size_swp]; exact hds, ⟨P ++ [y], Q2, by rw [e1]; simp, by simp; omega, ?_⟩, S2⟩
            rw [swp_mid e3 f1 (by simp at f1 ⊢; omega)]; simp
        · have hqz1 : ¬ (q : Int) < (i : Int) - 1 := by omega
          go_wp2
          (try simp only [Exit.inBlock, Exit.then]); refine bodyPost_ret (results_none rfl _ _ _) rfl ?_
          obtain ⟨P, Q, e1, e2, e3⟩ := HI.out
          obtain ⟨f1, f2, f3, f4⟩ := HE.out
          have hz : Q = [] := by
            rw [e1] at f2; simp at f2
            exact List.eq_nil_of_length_eq_zero (by omega)
          subst hz
          have hv := HV.out
          rw [f1] at hv
          have hr := merge_first HH.out hv f3 f4
          refine ⟨rfl, dk, V1 ++ x :: V3, ?_, hr.1, ?_, ?_, S1.out⟩
          · rw [e3, e1]; simp
          · rw [f1]; exact hr.2
          · rw [f1]; simp; omega

set_option maxHeartbeats 8000000 in
set_option maxRecDepth 1000000 in
theorem sym_last (k : Nat) (aE : ∀ w, (isAgg 51).run Tryz.prog w = .ok true w) (zE : ∀ w, (Go.sizeOf 51).run Tryz.prog w = .ok k w) (cf : Od → Od → Int) (hO : SWO (ltOf cf)) (g : Nat) (cb : Array Value) (blk off cap : Nat) (a m b : Nat) (d0 d : Array Od) (w0 w : World) (eg : ∀ args w, (callFunc g args).run Tryz.prog w = .ok (.enter g args) w) (hcmp : CmpLays Tryz.prog g cb oC k cf blk off d0.size w0) (R : RowK oC k w0 blk off d0) (hs : d0.size = d.size) (S : SWK oC k w0 blk off d w) (A U V C : List Od)
    (hd : d.toList = A ++ U ++ V ++ C) (ha : a = A.length) (hm : m = A.length + U.length) (hb : b = A.length + U.length + V.length) (sU : Srt (ltOf cf) U) (sV : Srt (ltOf cf) V) (hsz : d.size < 1000000) (x : Od) (hx1 : V = [x]) (hu2 : 2 ≤ U.length) :
    Calls Tryz.prog 157 #[.slice (some ⟨blk, off, none⟩) d.size cap, .int .i64 a, .int .i64 m, .int .i64 b, .func (.func g) #[] cb] w fun e w' => e = .returned (.tuple #[]) ∧ ∃ (d' : Array Od) (r : List Od), d'.toList = A ++ r ++ C ∧ Srt (ltOf cf) r ∧ Stb (ltOf cf) (U ++ V) r ∧ r.length = U.length + V.length ∧ SWK oC k w0 blk off d' w' := by
  have mixed : Tryz.prog.follows .mixedOrders = true := by kernel_rfl
  have hsd := size_of hd
  simp only [List.length_append] at hsd
  have S0 : Aside (SWK oC k w0 blk off d w) := S
  have HC : Aside _ := hcmp
  have HD : Hid _ := hd
  have HA : Hid (a = A.length ∧ m = A.length + U.length ∧ b = A.length + U.length + V.length ∧ d.size = A.length + U.length + V.length + C.length) := ⟨ha, hm, hb, hsd⟩
  have HH : Hid _ := hO
  have HU : Hid _ := sU
  have HV : Hid _ := sV
  subst hx1
  have c00 : ((m : Int) - (a : Int) == 1) = false := by simp; omega
  have c01 : ¬ (m : Int) - (a : Int) = 1 := by omega
  have c0 : (b : Int) - (m : Int) = 1 := by simp at hb; omega
  have ham : a < m := by omega
  have hmb : m < b := by omega
  have hbd : b ≤ d.size := by omega
  have hxa : d[m]! = x := get_mid (A := A ++ U) (C := C) (by rw [hd]; simp) (by simp; omega)
  have HX : Hid _ := hxa
  clear S hcmp hd ha hm hb hsd hO sU sV hxa hu2
  go_enter Tryz.func157, Tryz.ntmps157
  go_wp2
  go_loopg [14, 15] (m - a) (fun g1 vi vj wr => ∃ (i j : Nat), vi = .int .i64 i ∧ vj = .int .i64 j ∧ a ≤ i ∧ i ≤ j ∧ j ≤ m ∧ j - i ≤ g1 ∧ Hid (∃ V1 V2 V3, U = V1 ++ V2 ++ V3 ∧ V1.length + a = i ∧ V2.length + i = j ∧ (∀ y ∈ V1, ltOf cf x y = false) ∧ (∀ y ∈ V3, ltOf cf x y = true)) ∧ Aside (SWK oC k w0 blk off d wr))
  case atStart => exact ⟨a, m, rfl, rfl, Nat.le_refl _, by omega, Nat.le_refl _, Nat.le_refl _, ⟨[], U, [], by simp, by simp, by have := HA.out; omega, by simp, by simp⟩, S0⟩
  case round =>
    clear S0
    obtain ⟨i, j, rfl, rfl, hmi, hij, hjb, hg1, HI, S1⟩ := hrel
    by_cases hlt : i < j
    · have hltz : (i : Int) < (j : Int) := by omega
      have hmid : ((i : Int) + (j : Int)) / 2 = (((i + j) / 2 : Nat) : Int) := by omega
      obtain ⟨h, hh⟩ : ∃ h, (i + j) / 2 = h := ⟨_, rfl⟩
      have hih : i ≤ h := by omega
      have hhj : h < j := by omega
      rw [hh] at hmid
      clear hh
      obtain ⟨V1, V2, V3, e1, e2, e3, e4, e5⟩ := HI.out
      obtain ⟨P, y, Q, f1, f2⟩ : ∃ P y Q, V2 = P ++ y :: Q ∧ P.length = h - i := cut_at (by omega)
      have HE : Hid (U = (V1 ++ P) ++ y :: (Q ++ V3) ∧ V1.length + a = i ∧ P.length + i = h ∧ Q.length + h + 1 = j ∧ (∀ y ∈ V1, ltOf cf x y = false) ∧ (∀ y ∈ V3, ltOf cf x y = true)) :=
        ⟨by rw [e1, f1]; simp, e2, by omega, by rw [f1] at e3; simp at e3; omega, e4, e5⟩
      have hyh : d[h]! = y := get_mid (A := A ++ V1 ++ P) (C := Q ++ V3 ++ [x] ++ C) (by rw [HD.out, HE.out.1]; simp) (by have := HA.out; simp at this ⊢; omega)
      have HY : Hid _ := hyh
      have HM : Hid _ := srt_mid (lt := ltOf cf) (P := V1 ++ P) (y := y) (Q := Q ++ V3) (by have := HU.out; rw [HE.out.1] at this; exact this)
      clear e1 e2 e3 e4 e5 f1 f2 hyh HI
      by_cases hlv : cf x y < 0
      · go_wp2_with fail
        have ea40 : ((m : Int)).toNat = m := by omega
        have pa40 : (0 : Int) ≤ (m : Int) := by omega
        have ba40 : (m : Int) < (d.size : Int) := by omega
        have ra40 : IntKind.i64.wrap ((m : Int)) = (m : Int) := by rw [IntKind.wrap_i64]; omega
        have ec40 : ((h : Int)).toNat = h := by omega
        have pc40 : (0 : Int) ≤ (h : Int) := by omega
        have bc40 : (h : Int) < (d.size : Int) := by omega
        have rc40 : IntKind.i64.wrap ((h : Int)) = (h : Int) := by rw [IntKind.wrap_i64]; omega
        have l40a := S1.out.ld R (by omega) Tryz.prog (m) (by omega)
        have l40b := S1.out.ld R (by omega) Tryz.prog (h) (by omega)
        rw [HX.out] at l40a
        rw [HY.out] at l40b
        have hc40 := S1.out.cmp HC.out (by omega) x y
        have hd40 : decide (cf x y < 0) = true := by exact decide_eq_true hlv
        go_wp2_with fail
        go_quiet_grown (first | (go_at_fn g; refine Calls.grown_of (hc40 _ _)))
        have S2 : Aside (SWK oC k w0 blk off d (grow (wr.drewN nq) osq)) := S1.out.grown nq osq
        clear l40a l40b hc40 S1
        generalize grow (wr.drewN nq) osq = w2 at S2 ⊢
        clear nq osq
        go_wp2
        go_roundg (h - i)
        case measure => omega
        case rel =>
          obtain ⟨e1, e2, e3, e4, e5, e6⟩ := HE.out
          refine ⟨i, h, rfl, rfl, hmi, hih, by omega, Nat.le_refl _, ⟨V1, P, y :: Q ++ V3, by rw [e1]; simp, e2, e3, e5, ?_⟩, S2⟩
          intro z hz
          have hyx : ltOf cf x y = true := decide_eq_true hlv
          rcases List.mem_cons.1 hz with f | f
          · rw [f]; exact hyx
          · exact lt_of_lt_le HH.out hyx (HM.out.2 z f)
      · go_wp2_with fail
        have ea41 : ((m : Int)).toNat = m := by omega
        have pa41 : (0 : Int) ≤ (m : Int) := by omega
        have ba41 : (m : Int) < (d.size : Int) := by omega
        have ra41 : IntKind.i64.wrap ((m : Int)) = (m : Int) := by rw [IntKind.wrap_i64]; omega
        have ec41 : ((h : Int)).toNat = h := by omega
        have pc41 : (0 : Int) ≤ (h : Int) := by omega
        have bc41 : (h : Int) < (d.size : Int) := by omega
        have rc41 : IntKind.i64.wrap ((h : Int)) = (h : Int) := by rw [IntKind.wrap_i64]; omega
        have l41a := S1.out.ld R (by omega) Tryz.prog (m) (by omega)
        have l41b := S1.out.ld R (by omega) Tryz.prog (h) (by omega)
        rw [HX.out] at l41a
        rw [HY.out] at l41b
        have hc41 := S1.out.cmp HC.out (by omega) x y
        have hd41 : decide (cf x y < 0) = false := by simp only [decide_eq_false_iff_not]; omega
        go_wp2_with fail
        go_quiet_grown (first | (go_at_fn g; refine Calls.grown_of (hc41 _ _)))
        have S2 : Aside (SWK oC k w0 blk off d (grow (wr.drewN nq) osq)) := S1.out.grown nq osq
        clear l41a l41b hc41 S1
        generalize grow (wr.drewN nq) osq = w2 at S2 ⊢
        clear nq osq
        go_wp2
        go_roundg (j - (h + 1))
        case measure => omega
        case rel =>
          obtain ⟨e1, e2, e3, e4, e5, e6⟩ := HE.out
          refine ⟨h + 1, j, by go_num, rfl, by omega, by omega, hjb, Nat.le_refl _, ⟨V1 ++ P ++ [y], Q, V3, by rw [e1]; simp, by simp; omega, by omega, ?_, e6⟩, S2⟩
          intro z hz
          have hyx : ltOf cf x y = false := decide_eq_false (by omega)
          rcases List.mem_append.1 hz with f | f
          · exact HH.out.ntrans x y z hyx (HM.out.1 z f)
          · rw [List.mem_singleton.1 f]; exact hyx
    · have hltz : ¬ (i : Int) < (j : Int) := by omega
      obtain ⟨V1, V2, V3, e1, e2, e3, e4, e5⟩ := HI.out
      have hz : V2 = [] := List.eq_nil_of_length_eq_zero (by omega)
      subst hz
      have HE : Hid (U = V1 ++ V3 ∧ V1.length + a = i ∧ (∀ y ∈ V1, ltOf cf x y = false) ∧ (∀ y ∈ V3, ltOf cf x y = true)) := ⟨by rw [e1]; simp, e2, e4, e5⟩
      clear e1 e2 e3 e4 e5 HI
      have him : i ≤ m := by omega
      go_wp2
      go_loopg [17] (m - i) (fun g2 vk wr2 => ∃ (q : Nat) (dk : Array Od), vk = .int .i64 q ∧ i ≤ q ∧ q ≤ m ∧ q - i ≤ g2 ∧ dk.size = d.size ∧ Hid (∃ P Q, V3 = P ++ Q ∧ P.length + i = q ∧ dk.toList = (A ++ V1 ++ P) ++ x :: (Q ++ C)) ∧ Aside (SWK oC k w0 blk off dk wr2))
      case atStart => exact ⟨m, d, rfl, him, Nat.le_refl _, Nat.le_refl _, rfl, ⟨V3, [], by simp, by have h1 := HA.out; have h2 := HE.out.1; have h3 := HE.out.2.1; rw [h2] at h1; simp at h1; omega, by rw [HD.out, HE.out.1]; simp⟩, S1⟩
      case round =>
        clear S1
        obtain ⟨q, dk, rfl, haq, hqi, hg2, hds, HI, S1⟩ := hrel
        by_cases hqz : i < q
        · obtain ⟨qp, rfl⟩ : ∃ qp, q = qp + 1 := ⟨q - 1, by omega⟩
          have hqz1 : (i : Int) < (qp : Int) + 1 := by omega
          obtain ⟨P, Q, e1, e2, e3⟩ := HI.out
          obtain ⟨P0, y, rfl⟩ : ∃ P0 y, P = P0 ++ [y] := by
            rcases List.eq_nil_or_concat P with e | ⟨s0, y, e⟩
            · exfalso; rw [e] at e2; simp at e2; omega
            · exact ⟨s0, y, by simpa using e⟩
          have HK : Hid (V3 = P0 ++ [y] ++ Q ∧ P0.length + i = qp ∧ dk.toList = (A ++ V1 ++ P0) ++ y :: ([] ++ x :: (Q ++ C))) := ⟨e1, by simp at e2; omega, by rw [e3]; simp⟩
          have hwp : IntKind.i64.wrap (qp : Int) = (qp : Int) := by rw [IntKind.wrap_i64]; omega
          clear e1 e2 e3 HI
          go_wp2_with fail
          have ea42 : ((qp : Int) + 1).toNat = qp + 1 := by omega
          have pa42 : (0 : Int) ≤ (qp : Int) + 1 := by omega
          have ba42 : (qp : Int) + 1 < (d.size : Int) := by omega
          have ra42 : IntKind.i64.wrap ((qp : Int) + 1) = (qp : Int) + 1 := by rw [IntKind.wrap_i64]; omega
          have ec42 : ((qp : Int)).toNat = qp := by omega
          have pc42 : (0 : Int) ≤ (qp : Int) := by omega
          have bc42 : (qp : Int) < (d.size : Int) := by omega
          have rc42 : IntKind.i64.wrap ((qp : Int)) = (qp : Int) := by rw [IntKind.wrap_i64]; omega
          have S2 : Aside (SWK oC k w0 blk off (swp dk (qp + 1) (qp)) ((wr.drew.setCells blk (off + (qp + 1) * k) (oC dk[qp]!)).setCells blk (off + (qp) * k) (oC dk[qp + 1]!))) := S1.out.swapped R (qp + 1) (qp) (by omega) (by omega)
          have l42a := S1.out.ld1 R (by omega) Tryz.prog (qp + 1) (by omega)
          have l42b := S1.out.ld1 R (by omega) Tryz.prog (qp) (by omega)
          have s42a := S1.out.st1 R (by omega) Tryz.prog (qp + 1) (by omega) dk[qp]!
          have s42b := S1.out.st2 R (by omega) Tryz.prog (qp + 1) (qp) (by omega) (by omega) dk[qp]! dk[qp + 1]!
          have n42a : (oC dk[qp + 1]!).length = k := R.hk _
          have n42b : (oC dk[qp]!).length = k := R.hk _
          generalize oC dk[qp + 1]! = cI42 at S2 l42a s42b n42a
          generalize oC dk[qp]! = cJ42 at S2 l42b s42a s42b n42b
          clear S1
          go_wp2_with fail
          go_big_region_o
          clear l42a l42b s42a s42b
          generalize (wr.drew.setCells blk (off + (qp + 1) * k) cJ42).setCells blk (off + (qp) * k) cI42 = w2 at S2 ⊢
          go_wp2
          go_roundg (qp - i)
          case measure => omega
          case rel =>
            obtain ⟨e1, e2, e3⟩ := HK.out
            have f1 : qp = (A ++ V1 ++ P0).length := by have := HA.out.1; have := HE.out.2.1; simp; omega
            refine ⟨qp, swp dk (qp + 1) qp, by first | rfl | go_num | (congr 1; omega), by omega, by omega, Nat.le_refl _, by rw [size_swp]; exact hds, ⟨P0, y :: Q, by rw [e1]; simp, e2, ?_⟩, S2⟩
            rw [swp_comm' e3 f1 (by simp at f1 ⊢; omega)]; simp
        · have hqz1 : ¬ (i : Int) < (q : Int) := by omega
          go_wp2
          (try simp only [Exit.inBlock, Exit.then]); refine bodyPost_ret (results_none rfl _ _ _) rfl ?_
          obtain ⟨P, Q, e1, e2, e3⟩ := HI.out
          obtain ⟨f1, f2, f3, f4⟩ := HE.out
          have hz : P = [] := List.eq_nil_of_length_eq_zero (by omega)
          subst hz
          have hv := HU.out
          rw [f1] at hv
          have hr := merge_last HH.out hv f3 f4
          refine ⟨rfl, dk, V1 ++ x :: V3, ?_, hr.1, ?_, ?_, S1.out⟩
          · rw [e3, e1]; simp
          · rw [f1]; exact hr.2
          · rw [f1]; simp; omega
end Go.Proofs.YtpekfpfhonechaaGreat.Cal
