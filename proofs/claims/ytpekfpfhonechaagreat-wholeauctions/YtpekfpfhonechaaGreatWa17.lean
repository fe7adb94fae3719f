/- The library's stable sort at orders: two sorted runs merged. -/
import Derived.Test.YtpekfpfhonechaaGreatWa16
namespace Go.Proofs.YtpekfpfhonechaaGreat.Cal
open Go.Shelf Go.RowKit Go.Lib Go.Sort
set_option linter.unusedSimpArgs false
set_option linter.unusedVariables false

theorem rotate_int (k : Nat) (aE : ∀ w, (isAgg 51).run Tryz.prog w = .ok true w) (zE : ∀ w, (Go.sizeOf 51).run Tryz.prog w = .ok k w) (fv : Value) (blk off cap : Nat) (a m b z : Int) (d0 d : Array Od) (w0 w : World) (R : RowK oC k w0 blk off d0) (hz : z = d.size) (hs : d0.size = d.size) (S : SWK oC k w0 blk off d w) (A U V C : List Od)
    (hd : d.toList = A ++ U ++ V ++ C) (ha : a = A.length) (hm : m = A.length + U.length) (hb : b = A.length + U.length + V.length) (hu : 0 < U.length) (hv : 0 < V.length) (hsz : d.size < 1000000) :
    Calls Tryz.prog 158 #[.slice (some ⟨blk, off, none⟩) z.toNat cap, .int .i64 a, .int .i64 m, .int .i64 b, fv] w fun e w' => e = .returned (.tuple #[]) ∧ ∃ d' : Array Od, d'.toList = A ++ V ++ U ++ C ∧ SWK oC k w0 blk off d' w' := by
  have := rotate_calls k aE zE fv blk off cap A.length (A.length + U.length) (A.length + U.length + V.length) d0 d w0 w R hs S A U V C hd rfl rfl rfl hu hv hsz
  rw [ha, hm, hb, hz, Int.toNat_natCast]
  simpa using this

set_option maxHeartbeats 16000000 in
set_option maxRecDepth 1000000 in
theorem sym_hi (k : Nat) (aE : ∀ w, (isAgg 51).run Tryz.prog w = .ok true w) (zE : ∀ w, (Go.sizeOf 51).run Tryz.prog w = .ok k w) (cf : Od → Od → Int) (hO : SWO (ltOf cf)) (g : Nat) (cb : Array Value) (blk off cap : Nat) (a m b : Nat) (d0 d : Array Od) (w0 w : World) (eg : ∀ args w, (callFunc g args).run Tryz.prog w = .ok (.enter g args) w) (hcmp : CmpLays Tryz.prog g cb oC k cf blk off d0.size w0) (R : RowK oC k w0 blk off d0) (hs : d0.size = d.size) (S : SWK oC k w0 blk off d w) (A U V C : List Od)
    (hd : d.toList = A ++ U ++ V ++ C) (ha : a = A.length) (hm : m = A.length + U.length) (hb : b = A.length + U.length + V.length) (sU : Srt (ltOf cf) U) (sV : Srt (ltOf cf) V) (hsz : d.size < 1000000) (hu2 : 2 ≤ U.length) (hv2 : 2 ≤ V.length) (N md : Nat) (hN : N = U.length + V.length) (hmd1 : 2 * md ≤ a + b) (hmd2 : a + b < 2 * md + 2) (hmm : md < m) (IH : ∀ (a m b z : Int) (d : Array Od) (w : World) (A U V C : List Od), U.length + V.length < N → z = d.size → d0.size = d.size → SWK oC k w0 blk off d w → d.toList = A ++ U ++ V ++ C → a = A.length → m = A.length + U.length → b = A.length + U.length + V.length → 0 < U.length → 0 < V.length → Srt (ltOf cf) U → Srt (ltOf cf) V → d.size < 1000000 → Calls Tryz.prog 157 #[.slice (some ⟨blk, off, none⟩) z.toNat cap, .int .i64 a, .int .i64 m, .int .i64 b, .func (.func g) #[] cb] w fun e w' => e = .returned (.tuple #[]) ∧ ∃ (d' : Array Od) (r : List Od), d'.toList = A ++ r ++ C ∧ Srt (ltOf cf) r ∧ Stb (ltOf cf) (U ++ V) r ∧ r.length = U.length + V.length ∧ SWK oC k w0 blk off d' w') :
    Calls Tryz.prog 157 #[.slice (some ⟨blk, off, none⟩) d.size cap, .int .i64 a, .int .i64 m, .int .i64 b, .func (.func g) #[] cb] w fun e w' => e = .returned (.tuple #[]) ∧ ∃ (d' : Array Od) (r : List Od), d'.toList = A ++ r ++ C ∧ Srt (ltOf cf) r ∧ Stb (ltOf cf) (U ++ V) r ∧ r.length = U.length + V.length ∧ SWK oC k w0 blk off d' w' := by
  have mixed : Tryz.prog.follows .mixedOrders = true := by kernel_rfl
  have hsd := size_of hd
  simp only [List.length_append] at hsd
  have S0 : Aside (SWK oC k w0 blk off d w) := S
  have HC : Aside _ := hcmp
  have HD : Hid _ := hd
  have HA : Hid (a = A.length ∧ m = A.length + U.length ∧ b = A.length + U.length + V.length ∧ d.size = A.length + U.length + V.length + C.length) := ⟨ha, hm, hb, hsd⟩
  have HH : Hid _ := hO
  have HU : Hid _ := sU
  have HV : Hid _ := sV
  have HN : Hid _ := hN
  have c00 : ((m : Int) - (a : Int) == 1) = false := by simp; omega
  have c01 : ¬ (m : Int) - (a : Int) = 1 := by omega
  have c02 : ((b : Int) - (m : Int) == 1) = false := by simp; omega
  have c03 : ¬ (b : Int) - (m : Int) = 1 := by omega
  have hmid : ((a : Int) + (b : Int)) / 2 = (md : Int) := by omega
  have c04 : decide ((md : Int) < (m : Int)) = true := by simp only [decide_eq_true_eq]; omega
  have c05 : (md : Int) < (m : Int) := by omega
  have ham : a < m := by omega
  have hmb : m < b := by omega
  have hbd : b ≤ d.size := by omega
  have hab4 : a + 4 ≤ b := by omega
  clear S hcmp hd ha hm hb hsd hO sU sV hu2 hv2 hN
  go_enter Tryz.func157, Tryz.ntmps157
  go_wp2
  go_loopg [20, 21] (b - a) (fun g1 vs vr wr => ∃ (s r : Nat), vs = .int .i64 s ∧ vr = .int .i64 r ∧ md + m - b ≤ s ∧ s ≤ r ∧ r ≤ md ∧ r - s ≤ g1 ∧ Hid ((s = md + m - b ∨ ltOf cf d[md + m - s]! d[s - 1]! = false) ∧ (r = md ∨ ltOf cf d[md + m - 1 - r]! d[r]! = true)) ∧ Aside (SWK oC k w0 blk off d wr))
  case atStart => exact ⟨md + m - b, md, by first | rfl | (congr 1; omega), rfl, Nat.le_refl _, by omega, Nat.le_refl _, by omega, ⟨Or.inl rfl, Or.inl rfl⟩, S0⟩
  case round =>
    clear S0
    obtain ⟨s, r, rfl, rfl, h0s, hsr, hr0, hg1, HI, S1⟩ := hrel
    by_cases hlt : s < r
    · have hltz : (s : Int) < (r : Int) := by omega
      have hmid2 : ((s : Int) + (r : Int)) / 2 = (((s + r) / 2 : Nat) : Int) := by omega
      obtain ⟨c, hh⟩ : ∃ c, (s + r) / 2 = c := ⟨_, rfl⟩
      have hih : s ≤ c := by omega
      have hhj : c < r := by omega
      rw [hh] at hmid2
      clear hh
      obtain ⟨t, htt⟩ : ∃ t, md + m - 1 - c = t := ⟨_, rfl⟩
      have hpc : (md : Int) + (m : Int) - 1 - (c : Int) = (t : Int) := by omega
      have htb : t < b := by omega
      have HT : Hid _ := htt
      clear htt
      obtain ⟨x, hx⟩ : ∃ x, d[t]! = x := ⟨_, rfl⟩
      obtain ⟨y, hy⟩ : ∃ y, d[c]! = y := ⟨_, rfl⟩
      have HX : Hid _ := hx
      have HY : Hid _ := hy
      clear hx hy
      by_cases hlv : cf x y < 0
      · go_wp2_with fail
        have ea40 : ((t : Int)).toNat = t := by omega
        have pa40 : (0 : Int) ≤ (t : Int) := by omega
        have ba40 : (t : Int) < (d.size : Int) := by omega
        have ra40 : IntKind.i64.wrap ((t : Int)) = (t : Int) := by rw [IntKind.wrap_i64]; omega
        have ec40 : ((c : Int)).toNat = c := by omega
        have pc40 : (0 : Int) ≤ (c : Int) := by omega
        have bc40 : (c : Int) < (d.size : Int) := by omega
        have rc40 : IntKind.i64.wrap ((c : Int)) = (c : Int) := by rw [IntKind.wrap_i64]; omega
        have l40a := S1.out.ld R (by omega) Tryz.prog (t) (by omega)
        have l40b := S1.out.ld R (by omega) Tryz.prog (c) (by omega)
        rw [HX.out] at l40a
        rw [HY.out] at l40b
        have hc40 := S1.out.cmp HC.out (by omega) x y
        have hd40 : decide (cf x y < 0) = true := by exact decide_eq_true hlv
        go_wp2_with fail
        go_quiet_grown (first | (go_at_fn g; refine Calls.grown_of (hc40 _ _)))
        have S2 : Aside (SWK oC k w0 blk off d (grow (wr.drewN nq) osq)) := S1.out.grown nq osq
        clear l40a l40b hc40 S1
        generalize grow (wr.drewN nq) osq = w2 at S2 ⊢
        clear nq osq
        go_wp2
        go_roundg (c - s)
        case measure => omega
        case rel => exact ⟨s, c, rfl, rfl, h0s, hih, by omega, Nat.le_refl _, ⟨HI.out.1, Or.inr (by rw [HT.out, HX.out, HY.out]; exact decide_eq_true hlv)⟩, S2⟩
      · go_wp2_with fail
        have ea41 : ((t : Int)).toNat = t := by omega
        have pa41 : (0 : Int) ≤ (t : Int) := by omega
        have ba41 : (t : Int) < (d.size : Int) := by omega
        have ra41 : IntKind.i64.wrap ((t : Int)) = (t : Int) := by rw [IntKind.wrap_i64]; omega
        have ec41 : ((c : Int)).toNat = c := by omega
        have pc41 : (0 : Int) ≤ (c : Int) := by omega
        have bc41 : (c : Int) < (d.size : Int) := by omega
        have rc41 : IntKind.i64.wrap ((c : Int)) = (c : Int) := by rw [IntKind.wrap_i64]; omega
        have l41a := S1.out.ld R (by omega) Tryz.prog (t) (by omega)
        have l41b := S1.out.ld R (by omega) Tryz.prog (c) (by omega)
        rw [HX.out] at l41a
        rw [HY.out] at l41b
        have hc41 := S1.out.cmp HC.out (by omega) x y
        have hd41 : decide (cf x y < 0) = false := by simp only [decide_eq_false_iff_not]; omega
        go_wp2_with fail
        go_quiet_grown (first | (go_at_fn g; refine Calls.grown_of (hc41 _ _)))
        have S2 : Aside (SWK oC k w0 blk off d (grow (wr.drewN nq) osq)) := S1.out.grown nq osq
        clear l41a l41b hc41 S1
        generalize grow (wr.drewN nq) osq = w2 at S2 ⊢
        clear nq osq
        go_wp2
        go_roundg (r - (c + 1))
        case measure => omega
        case rel => exact ⟨c + 1, r, by go_num, rfl, by omega, by omega, hr0, Nat.le_refl _, ⟨Or.inr (by rw [show md + m - (c + 1) = md + m - 1 - c by omega, HT.out, Nat.add_sub_cancel, HX.out, HY.out]; exact decide_eq_false (by omega)), HI.out.2⟩, S2⟩
    · have hltz : ¬ (s : Int) < (r : Int) := by omega
      have hrs : r = s := by omega
      subst hrs
      obtain ⟨U1, U2, hU, hU1⟩ : ∃ U1 U2, U = U1 ++ U2 ∧ U1.length = r - a := cut2 (by have := HA.out; omega)
      obtain ⟨V1, V2, hV, hV1⟩ : ∃ V1 V2, V = V1 ++ V2 ∧ V1.length = md - r := cut2 (by have := HA.out; omega)
      have HP : Hid (U = U1 ++ U2 ∧ V = V1 ++ V2 ∧ U1.length + a = r ∧ V1.length + r = md ∧ U2.length + r = m ∧ V2.length + md + m = b + r) := by
        have h1 := HA.out; rw [hU, hV] at h1; simp at h1
        exact ⟨hU, hV, by omega, by omega, by omega, by omega⟩
      have HSU : Hid (Srt (ltOf cf) U1 ∧ Srt (ltOf cf) U2) := by have := HU.out; rw [hU] at this; exact ⟨Srt.left this, Srt.right this⟩
      have HSV : Hid (Srt (ltOf cf) V1 ∧ Srt (ltOf cf) V2) := by have := HV.out; rw [hV] at this; exact ⟨Srt.left this, Srt.right this⟩
      clear hU hU1 hV hV1
      have H12 : Hid (∀ x ∈ V1, ∀ y ∈ U2, ltOf cf x y = true) := by
        intro x hx y hy
        obtain ⟨p1, p2, p3, p4, p5, p6⟩ := HP.out
        have hsv := HSV.out.1
        have hsu := HSU.out.2
        obtain ⟨V0, l, rfl⟩ : ∃ V0 l, V1 = V0 ++ [l] := by
          rcases List.eq_nil_or_concat V1 with e | ⟨s0, y, e⟩
          · rw [e] at hx; cases hx
          · exact ⟨s0, y, by simpa using e⟩
        obtain ⟨h, U3, rfl⟩ : ∃ h U3, U2 = h :: U3 := by
          cases U2 with
          | nil => cases hy
          | cons h t => exact ⟨h, t, rfl⟩
        simp at p4 p5 p6
        have hp := HI.out.2.resolve_left (by have := HA.out; omega)
        have g1 : d[r]! = h := get_mid (A := A ++ U1) (C := U3 ++ V ++ C) (by rw [HD.out, p1]; simp) (by have := HA.out; simp; omega)
        have g2 : d[md + m - 1 - r]! = l := get_mid (A := A ++ U ++ V0) (C := V2 ++ C) (by rw [HD.out, p2]; simp) (by have := HA.out; simp; omega)
        rw [g1, g2] at hp
        have hx2 : ltOf cf l x = false := by
          rcases List.mem_append.1 hx with e | e
          · exact Srt.cross hsv x e l (List.mem_singleton.2 rfl)
          · rw [List.mem_singleton.1 e]; exact HH.out.irrefl l
        have hy2 : ltOf cf y h = false := by
          rcases List.mem_cons.1 hy with e | e
          · rw [e]; exact HH.out.irrefl h
          · exact (List.pairwise_cons.1 hsu).1 y e
        exact lt_of_lt_le HH.out (lt_of_le_lt HH.out hx2 hp) hy2
      have H21 : Hid (∀ x ∈ U1, ∀ y ∈ V2, ltOf cf y x = false) := by
        intro x hx y hy
        obtain ⟨p1, p2, p3, p4, p5, p6⟩ := HP.out
        have hsv := HSV.out.2
        have hsu := HSU.out.1
        obtain ⟨U0, l, rfl⟩ : ∃ U0 l, U1 = U0 ++ [l] := by
          rcases List.eq_nil_or_concat U1 with e | ⟨s0, y, e⟩
          · rw [e] at hx; cases hx
          · exact ⟨s0, y, by simpa using e⟩
        obtain ⟨h, V3, rfl⟩ : ∃ h V3, V2 = h :: V3 := by
          cases V2 with
          | nil => cases hy
          | cons h t => exact ⟨h, t, rfl⟩
        simp at p3 p6
        have hp := HI.out.1.resolve_left (by have := HA.out; omega)
        have g1 : d[r - 1]! = l := get_mid (A := A ++ U0) (C := U2 ++ V ++ C) (by rw [HD.out, p1]; simp) (by have := HA.out; simp; omega)
        have g2 : d[md + m - r]! = h := get_mid (A := A ++ U ++ V1) (C := V3 ++ C) (by rw [HD.out, p2]; simp) (by have := HA.out; simp; omega)
        rw [g1, g2] at hp
        have hx2 : ltOf cf l x = false := by
          rcases List.mem_append.1 hx with e | e
          · exact Srt.cross hsu x e l (List.mem_singleton.2 rfl)
          · rw [List.mem_singleton.1 e]; exact HH.out.irrefl l
        have hy2 : ltOf cf y h = false := by
          rcases List.mem_cons.1 hy with e | e
          · rw [e]; exact HH.out.irrefl h
          · exact (List.pairwise_cons.1 hsv).1 y e
        exact HH.out.ntrans y l x (HH.out.ntrans y h l hy2 hp) hx2
      clear HI
      obtain ⟨s, hss⟩ : ∃ s, s = r := ⟨_, rfl⟩
      subst hss
      by_cases t0 : a < s
      · by_cases t1 : s < m
        · by_cases t2 : s < md
          · by_cases t3 : md + m < b + s
            · have q1p : (s : Int) < (m : Int) := by omega
              have q1 : decide ((s : Int) < (m : Int)) = true := by simp only [decide_eq_true_eq]; exact q1p
              have q2p : (m : Int) < (md : Int) + (m : Int) - (s : Int) := by omega
              have q2 : decide ((m : Int) < (md : Int) + (m : Int) - (s : Int)) = true := by simp only [decide_eq_true_eq]; exact q2p
              have q3p : (a : Int) < (s : Int) := by omega
              have q3 : decide ((a : Int) < (s : Int)) = true := by simp only [decide_eq_true_eq]; exact q3p
              have q4p : (s : Int) < (md : Int) := by omega
              have q4 : decide ((s : Int) < (md : Int)) = true := by simp only [decide_eq_true_eq]; exact q4p
              have q5p : (md : Int) < (md : Int) + (m : Int) - (s : Int) := by omega
              have q5 : decide ((md : Int) < (md : Int) + (m : Int) - (s : Int)) = true := by simp only [decide_eq_true_eq]; exact q5p
              have q6p : (md : Int) + (m : Int) - (s : Int) < (b : Int) := by omega
              have q6 : decide ((md : Int) + (m : Int) - (s : Int) < (b : Int)) = true := by simp only [decide_eq_true_eq]; exact q6p
              have HR : Hid _ := rotate_int k aE zE (.func (.func g) #[] cb) blk off cap (s : Int) (m : Int) ((md : Int) + (m : Int) - (s : Int)) (d.size : Int) d0 d w0 wr R rfl hs S1.out (A ++ U1) U2 V1 (V2 ++ C) (by rw [HD.out, HP.out.1, HP.out.2.1]; simp) (by have := HP.out.2.2; have := HA.out; simp; omega) (by have := HP.out.2.2; have := HA.out; simp; omega) (by have := HP.out.2.2; have := HA.out; simp; omega) (by have := HP.out.2.2; have := HA.out; omega) (by have := HP.out.2.2; have := HA.out; omega) hsz
              rw [Int.toNat_natCast] at HR
              clear S1
              go_wp2_with fail
              refine Calls.mono HR.out ?_
              rintro e w2 ⟨rfl, d2, hd2, S2⟩
              have HD2 : Hid (d2.toList = A ++ U1 ++ V1 ++ (U2 ++ V2 ++ C)) := by show _ = _; rw [hd2]; simp
              have S2' : Aside _ := S2
              clear S2 hd2 HR
              have hs2 : d2.size = d.size := by have h1 := size_of HD2.out; have h2 := size_of HD.out; have h3 := HP.out.1; have h4 := HP.out.2.1; rw [h3, h4] at h2; simp at h1 h2; omega
              have HL : Hid _ := IH (a : Int) (s : Int) (md : Int) (d.size : Int) d2 _ A U1 V1 (U2 ++ V2 ++ C) (by have h3 := HP.out.1; have h4 := HP.out.2.1; have h5 := HN.out; have := HP.out.2.2; rw [h3, h4] at h5; simp at h5; omega) (by omega) (by omega) S2'.out (by rw [HD2.out]) (by have := HA.out; omega) (by have := HP.out.2.2; have := HA.out; omega) (by have := HP.out.2.2; have := HA.out; omega) (by have := HP.out.2.2; omega) (by have := HP.out.2.2; omega) HSU.out.1 HSV.out.1 (by omega)
              rw [Int.toNat_natCast] at HL
              clear S2'
              go_wp2_with fail
              refine Calls.mono HL.out ?_
              rintro e w3 ⟨rfl, d3, r1, hd3, hr1, hr2, hr3, S3⟩
              have HD3 : Hid (d3.toList = (A ++ r1) ++ U2 ++ V2 ++ C ∧ Srt (ltOf cf) r1 ∧ Stb (ltOf cf) (U1 ++ V1) r1 ∧ r1.length = U1.length + V1.length) := ⟨by rw [hd3]; simp, hr1, hr2, hr3⟩
              have S3' : Aside _ := S3
              clear S3 hd3 hr1 hr2 hr3 HL
              have hs3 : d3.size = d.size := by have h1 := size_of HD3.out.1; have h2 := size_of HD2.out; have h3 := HD3.out.2.2.2; simp at h1 h2; omega
              have HL : Hid _ := IH (md : Int) ((md : Int) + (m : Int) - (s : Int)) (b : Int) (d.size : Int) d3 _ (A ++ r1) U2 V2 C (by have h3 := HP.out.1; have h4 := HP.out.2.1; have h5 := HN.out; have := HP.out.2.2; rw [h3, h4] at h5; simp at h5; omega) (by omega) (by omega) S3'.out HD3.out.1 (by have := HP.out.2.2; have := HA.out; have := HD3.out.2.2.2; simp; omega) (by have := HP.out.2.2; have := HA.out; have := HD3.out.2.2.2; simp; omega) (by have := HP.out.2.2; have := HA.out; have := HD3.out.2.2.2; simp; omega) (by have := HP.out.2.2; omega) (by have := HP.out.2.2; omega) HSU.out.2 HSV.out.2 (by omega)
              rw [Int.toNat_natCast] at HL
              clear S3'
              go_wp2_with fail
              refine Calls.mono HL.out ?_
              rintro e w4 ⟨rfl, d4, r2, hd4, hr4, hr5, hr6, S4⟩
              have HD4 : Hid (d4.toList = A ++ r1 ++ r2 ++ C ∧ Srt (ltOf cf) r2 ∧ Stb (ltOf cf) (U2 ++ V2) r2 ∧ r2.length = U2.length + V2.length) := ⟨hd4, hr4, hr5, hr6⟩
              have S4' : Aside _ := S4
              clear S4 hd4 hr4 hr5 hr6 HL
              go_wp2
              go_end0
              have hr := merge_halves HH.out (u1 := U1) (u2 := U2) (v1 := V1) (v2 := V2) (r1 := r1) (r2 := r2) (by rw [← HP.out.1]; exact HU.out) (by rw [← HP.out.2.1]; exact HV.out) H12.out H21.out HD3.out.2.1 HD4.out.2.1 HD3.out.2.2.1 HD4.out.2.2.1
              refine ⟨rfl, d4, r1 ++ r2, by rw [HD4.out.1]; simp, hr.1, by rw [HP.out.1, HP.out.2.1]; exact hr.2, ?_, S4'.out⟩
              have h1 := HD3.out.2.2.2
              have h2 := HD4.out.2.2.2
              have h3 := HP.out.1
              have h4 := HP.out.2.1
              rw [h3, h4]; simp; omega
            · have HZ4 : Hid (V2 = []) := List.eq_nil_of_length_eq_zero (by have := HP.out.2.2; omega)
              have q1p : (s : Int) < (m : Int) := by omega
              have q1 : decide ((s : Int) < (m : Int)) = true := by simp only [decide_eq_true_eq]; exact q1p
              have q2p : (m : Int) < (md : Int) + (m : Int) - (s : Int) := by omega
              have q2 : decide ((m : Int) < (md : Int) + (m : Int) - (s : Int)) = true := by simp only [decide_eq_true_eq]; exact q2p
              have q3p : (a : Int) < (s : Int) := by omega
              have q3 : decide ((a : Int) < (s : Int)) = true := by simp only [decide_eq_true_eq]; exact q3p
              have q4p : (s : Int) < (md : Int) := by omega
              have q4 : decide ((s : Int) < (md : Int)) = true := by simp only [decide_eq_true_eq]; exact q4p
              have q5p : (md : Int) < (md : Int) + (m : Int) - (s : Int) := by omega
              have q5 : decide ((md : Int) < (md : Int) + (m : Int) - (s : Int)) = true := by simp only [decide_eq_true_eq]; exact q5p
              have q6p : ¬ (md : Int) + (m : Int) - (s : Int) < (b : Int) := by omega
              have q6 : decide ((md : Int) + (m : Int) - (s : Int) < (b : Int)) = false := by simp only [decide_eq_false_iff_not]; exact q6p
              have HR : Hid _ := rotate_int k aE zE (.func (.func g) #[] cb) blk off cap (s : Int) (m : Int) ((md : Int) + (m : Int) - (s : Int)) (d.size : Int) d0 d w0 wr R rfl hs S1.out (A ++ U1) U2 V1 (V2 ++ C) (by rw [HD.out, HP.out.1, HP.out.2.1]; simp) (by have := HP.out.2.2; have := HA.out; simp; omega) (by have := HP.out.2.2; have := HA.out; simp; omega) (by have := HP.out.2.2; have := HA.out; simp; omega) (by have := HP.out.2.2; have := HA.out; omega) (by have := HP.out.2.2; have := HA.out; omega) hsz
              rw [Int.toNat_natCast] at HR
              clear S1
              go_wp2_with fail
              refine Calls.mono HR.out ?_
              rintro e w2 ⟨rfl, d2, hd2, S2⟩
              have HD2 : Hid (d2.toList = A ++ U1 ++ V1 ++ (U2 ++ V2 ++ C)) := by show _ = _; rw [hd2]; simp
              have S2' : Aside _ := S2
              clear S2 hd2 HR
              have hs2 : d2.size = d.size := by have h1 := size_of HD2.out; have h2 := size_of HD.out; have h3 := HP.out.1; have h4 := HP.out.2.1; rw [h3, h4] at h2; simp at h1 h2; omega
              have HL : Hid _ := IH (a : Int) (s : Int) (md : Int) (d.size : Int) d2 _ A U1 V1 (U2 ++ V2 ++ C) (by have h3 := HP.out.1; have h4 := HP.out.2.1; have h5 := HN.out; have := HP.out.2.2; rw [h3, h4] at h5; simp at h5; omega) (by omega) (by omega) S2'.out (by rw [HD2.out]) (by have := HA.out; omega) (by have := HP.out.2.2; have := HA.out; omega) (by have := HP.out.2.2; have := HA.out; omega) (by have := HP.out.2.2; omega) (by have := HP.out.2.2; omega) HSU.out.1 HSV.out.1 (by omega)
              rw [Int.toNat_natCast] at HL
              clear S2'
              go_wp2_with fail
              refine Calls.mono HL.out ?_
              rintro e w3 ⟨rfl, d3, r1, hd3, hr1, hr2, hr3, S3⟩
              have HD3 : Hid (d3.toList = (A ++ r1) ++ U2 ++ V2 ++ C ∧ Srt (ltOf cf) r1 ∧ Stb (ltOf cf) (U1 ++ V1) r1 ∧ r1.length = U1.length + V1.length) := ⟨by rw [hd3]; simp, hr1, hr2, hr3⟩
              have S3' : Aside _ := S3
              clear S3 hd3 hr1 hr2 hr3 HL
              have hs3 : d3.size = d.size := by have h1 := size_of HD3.out.1; have h2 := size_of HD2.out; have h3 := HD3.out.2.2.2; simp at h1 h2; omega
              obtain ⟨d4, r2, hd4, hr2⟩ : ∃ d4 r2, d4 = d3 ∧ r2 = U2 ++ V2 := ⟨d3, _, rfl, rfl⟩
              have HD4 : Hid (d4.toList = A ++ r1 ++ r2 ++ C ∧ Srt (ltOf cf) r2 ∧ Stb (ltOf cf) (U2 ++ V2) r2 ∧ r2.length = U2.length + V2.length) := ⟨by rw [hd4, HD3.out.1, hr2]; simp, by rw [hr2]; rw [HZ4.out, List.append_nil]; exact HSU.out.2, by rw [hr2]; exact Stb.refl _, by rw [hr2]; simp⟩
              rw [← hd4] at S3'
              have S4' : Aside _ := S3'.out
              clear S3' hd4 hr2
              go_wp2
              go_end0
              have hr := merge_halves HH.out (u1 := U1) (u2 := U2) (v1 := V1) (v2 := V2) (r1 := r1) (r2 := r2) (by rw [← HP.out.1]; exact HU.out) (by rw [← HP.out.2.1]; exact HV.out) H12.out H21.out HD3.out.2.1 HD4.out.2.1 HD3.out.2.2.1 HD4.out.2.2.1
              refine ⟨rfl, d4, r1 ++ r2, by rw [HD4.out.1]; simp, hr.1, by rw [HP.out.1, HP.out.2.1]; exact hr.2, ?_, S4'.out⟩
              have h1 := HD3.out.2.2.2
              have h2 := HD4.out.2.2.2
              have h3 := HP.out.1
              have h4 := HP.out.2.1
              rw [h3, h4]; simp; omega
          · have HZ3 : Hid (V1 = []) := List.eq_nil_of_length_eq_zero (by have := HP.out.2.2; omega)
            by_cases t3 : md + m < b + s
            · have q1p : (s : Int) < (m : Int) := by omega
              have q1 : decide ((s : Int) < (m : Int)) = true := by simp only [decide_eq_true_eq]; exact q1p
              have q2p : ¬ (m : Int) < (md : Int) + (m : Int) - (s : Int) := by omega
              have q2 : decide ((m : Int) < (md : Int) + (m : Int) - (s : Int)) = false := by simp only [decide_eq_false_iff_not]; exact q2p
              have q3p : (a : Int) < (s : Int) := by omega
              have q3 : decide ((a : Int) < (s : Int)) = true := by simp only [decide_eq_true_eq]; exact q3p
              have q4p : ¬ (s : Int) < (md : Int) := by omega
              have q4 : decide ((s : Int) < (md : Int)) = false := by simp only [decide_eq_false_iff_not]; exact q4p
              have q5p : (md : Int) < (md : Int) + (m : Int) - (s : Int) := by omega
              have q5 : decide ((md : Int) < (md : Int) + (m : Int) - (s : Int)) = true := by simp only [decide_eq_true_eq]; exact q5p
              have q6p : (md : Int) + (m : Int) - (s : Int) < (b : Int) := by omega
              have q6 : decide ((md : Int) + (m : Int) - (s : Int) < (b : Int)) = true := by simp only [decide_eq_true_eq]; exact q6p
              obtain ⟨d2, w2, hd2, hw2⟩ : ∃ d2 w2, d2 = d ∧ w2 = wr := ⟨d, wr, rfl, rfl⟩
              have HD2 : Hid (d2.toList = A ++ U1 ++ V1 ++ (U2 ++ V2 ++ C)) := by
                show _ = _
                rw [hd2, HD.out, HP.out.1, HP.out.2.1, HZ3.out]
                simp
              have S2' : Aside (SWK oC k w0 blk off d2 w2) := by rw [hd2, hw2]; exact S1
              clear S1 hd2
              subst hw2
              have hs2 : d2.size = d.size := by have h1 := size_of HD2.out; have h2 := size_of HD.out; have h3 := HP.out.1; have h4 := HP.out.2.1; rw [h3, h4] at h2; simp at h1 h2; omega
              obtain ⟨d3, r1, hd3, hr1⟩ : ∃ d3 r1, d3 = d2 ∧ r1 = U1 ++ V1 := ⟨d2, _, rfl, rfl⟩
              have HD3 : Hid (d3.toList = (A ++ r1) ++ U2 ++ V2 ++ C ∧ Srt (ltOf cf) r1 ∧ Stb (ltOf cf) (U1 ++ V1) r1 ∧ r1.length = U1.length + V1.length) := ⟨by rw [hd3, HD2.out, hr1]; simp, by rw [hr1]; rw [HZ3.out, List.append_nil]; exact HSU.out.1, by rw [hr1]; exact Stb.refl _, by rw [hr1]; simp⟩
              rw [← hd3] at S2'
              have S3' : Aside _ := S2'.out
              clear S2' hd3 hr1
              have hs3 : d3.size = d.size := by have h1 := size_of HD3.out.1; have h2 := size_of HD2.out; have h3 := HD3.out.2.2.2; simp at h1 h2; omega
              have HL : Hid _ := IH (md : Int) ((md : Int) + (m : Int) - (s : Int)) (b : Int) (d.size : Int) d3 _ (A ++ r1) U2 V2 C (by have h3 := HP.out.1; have h4 := HP.out.2.1; have h5 := HN.out; have := HP.out.2.2; rw [h3, h4] at h5; simp at h5; omega) (by omega) (by omega) S3'.out HD3.out.1 (by have := HP.out.2.2; have := HA.out; have := HD3.out.2.2.2; simp; omega) (by have := HP.out.2.2; have := HA.out; have := HD3.out.2.2.2; simp; omega) (by have := HP.out.2.2; have := HA.out; have := HD3.out.2.2.2; simp; omega) (by have := HP.out.2.2; omega) (by have := HP.out.2.2; omega) HSU.out.2 HSV.out.2 (by omega)
              rw [Int.toNat_natCast] at HL
              clear S3'
              go_wp2_with fail
              refine Calls.mono HL.out ?_
              rintro e w4 ⟨rfl, d4, r2, hd4, hr4, hr5, hr6, S4⟩
              have HD4 : Hid (d4.toList = A ++ r1 ++ r2 ++ C ∧ Srt (ltOf cf) r2 ∧ Stb (ltOf cf) (U2 ++ V2) r2 ∧ r2.length = U2.length + V2.length) := ⟨hd4, hr4, hr5, hr6⟩
              have S4' : Aside _ := S4
              clear S4 hd4 hr4 hr5 hr6 HL
              go_wp2
              go_end0
              have hr := merge_halves HH.out (u1 := U1) (u2 := U2) (v1 := V1) (v2 := V2) (r1 := r1) (r2 := r2) (by rw [← HP.out.1]; exact HU.out) (by rw [← HP.out.2.1]; exact HV.out) H12.out H21.out HD3.out.2.1 HD4.out.2.1 HD3.out.2.2.1 HD4.out.2.2.1
              refine ⟨rfl, d4, r1 ++ r2, by rw [HD4.out.1]; simp, hr.1, by rw [HP.out.1, HP.out.2.1]; exact hr.2, ?_, S4'.out⟩
              have h1 := HD3.out.2.2.2
              have h2 := HD4.out.2.2.2
              have h3 := HP.out.1
              have h4 := HP.out.2.1
              rw [h3, h4]; simp; omega
            · have HZ4 : Hid (V2 = []) := List.eq_nil_of_length_eq_zero (by have := HP.out.2.2; omega)
              exfalso; omega
        · have HZ2 : Hid (U2 = []) := List.eq_nil_of_length_eq_zero (by have := HP.out.2.2; omega)
          by_cases t2 : s < md
          · by_cases t3 : md + m < b + s
            · have q1p : ¬ (s : Int) < (m : Int) := by omega
              have q1 : decide ((s : Int) < (m : Int)) = false := by simp only [decide_eq_false_iff_not]; exact q1p
              have q2p : (m : Int) < (md : Int) + (m : Int) - (s : Int) := by omega
              have q2 : decide ((m : Int) < (md : Int) + (m : Int) - (s : Int)) = true := by simp only [decide_eq_true_eq]; exact q2p
              have q3p : (a : Int) < (s : Int) := by omega
              have q3 : decide ((a : Int) < (s : Int)) = true := by simp only [decide_eq_true_eq]; exact q3p
              have q4p : (s : Int) < (md : Int) := by omega
              have q4 : decide ((s : Int) < (md : Int)) = true := by simp only [decide_eq_true_eq]; exact q4p
              have q5p : ¬ (md : Int) < (md : Int) + (m : Int) - (s : Int) := by omega
              have q5 : decide ((md : Int) < (md : Int) + (m : Int) - (s : Int)) = false := by simp only [decide_eq_false_iff_not]; exact q5p
              have q6p : (md : Int) + (m : Int) - (s : Int) < (b : Int) := by omega
              have q6 : decide ((md : Int) + (m : Int) - (s : Int) < (b : Int)) = true := by simp only [decide_eq_true_eq]; exact q6p
              obtain ⟨d2, w2, hd2, hw2⟩ : ∃ d2 w2, d2 = d ∧ w2 = wr := ⟨d, wr, rfl, rfl⟩
              have HD2 : Hid (d2.toList = A ++ U1 ++ V1 ++ (U2 ++ V2 ++ C)) := by
                show _ = _
                rw [hd2, HD.out, HP.out.1, HP.out.2.1, HZ2.out]
                simp
              have S2' : Aside (SWK oC k w0 blk off d2 w2) := by rw [hd2, hw2]; exact S1
              clear S1 hd2
              subst hw2
              have hs2 : d2.size = d.size := by have h1 := size_of HD2.out; have h2 := size_of HD.out; have h3 := HP.out.1; have h4 := HP.out.2.1; rw [h3, h4] at h2; simp at h1 h2; omega
              have HL : Hid _ := IH (a : Int) (s : Int) (md : Int) (d.size : Int) d2 _ A U1 V1 (U2 ++ V2 ++ C) (by have h3 := HP.out.1; have h4 := HP.out.2.1; have h5 := HN.out; have := HP.out.2.2; rw [h3, h4] at h5; simp at h5; omega) (by omega) (by omega) S2'.out (by rw [HD2.out]) (by have := HA.out; omega) (by have := HP.out.2.2; have := HA.out; omega) (by have := HP.out.2.2; have := HA.out; omega) (by have := HP.out.2.2; omega) (by have := HP.out.2.2; omega) HSU.out.1 HSV.out.1 (by omega)
              rw [Int.toNat_natCast] at HL
              clear S2'
              go_wp2_with fail
              refine Calls.mono HL.out ?_
              rintro e w3 ⟨rfl, d3, r1, hd3, hr1, hr2, hr3, S3⟩
              have HD3 : Hid (d3.toList = (A ++ r1) ++ U2 ++ V2 ++ C ∧ Srt (ltOf cf) r1 ∧ Stb (ltOf cf) (U1 ++ V1) r1 ∧ r1.length = U1.length + V1.length) := ⟨by rw [hd3]; simp, hr1, hr2, hr3⟩
              have S3' : Aside _ := S3
              clear S3 hd3 hr1 hr2 hr3 HL
              have hs3 : d3.size = d.size := by have h1 := size_of HD3.out.1; have h2 := size_of HD2.out; have h3 := HD3.out.2.2.2; simp at h1 h2; omega
              obtain ⟨d4, r2, hd4, hr2⟩ : ∃ d4 r2, d4 = d3 ∧ r2 = U2 ++ V2 := ⟨d3, _, rfl, rfl⟩
              have HD4 : Hid (d4.toList = A ++ r1 ++ r2 ++ C ∧ Srt (ltOf cf) r2 ∧ Stb (ltOf cf) (U2 ++ V2) r2 ∧ r2.length = U2.length + V2.length) := ⟨by rw [hd4, HD3.out.1, hr2]; simp, by rw [hr2]; rw [HZ2.out]; exact HSV.out.2, by rw [hr2]; exact Stb.refl _, by rw [hr2]; simp⟩
              rw [← hd4] at S3'
              have S4' : Aside _ := S3'.out
              clear S3' hd4 hr2
              go_wp2
              go_end0
              have hr := merge_halves HH.out (u1 := U1) (u2 := U2) (v1 := V1) (v2 := V2) (r1 := r1) (r2 := r2) (by rw [← HP.out.1]; exact HU.out) (by rw [← HP.out.2.1]; exact HV.out) H12.out H21.out HD3.out.2.1 HD4.out.2.1 HD3.out.2.2.1 HD4.out.2.2.1
              refine ⟨rfl, d4, r1 ++ r2, by rw [HD4.out.1]; simp, hr.1, by rw [HP.out.1, HP.out.2.1]; exact hr.2, ?_, S4'.out⟩
              have h1 := HD3.out.2.2.2
              have h2 := HD4.out.2.2.2
              have h3 := HP.out.1
              have h4 := HP.out.2.1
              rw [h3, h4]; simp; omega
            · have HZ4 : Hid (V2 = []) := List.eq_nil_of_length_eq_zero (by have := HP.out.2.2; omega)
              exfalso; omega
          · have HZ3 : Hid (V1 = []) := List.eq_nil_of_length_eq_zero (by have := HP.out.2.2; omega)
            by_cases t3 : md + m < b + s
            · have q1p : ¬ (s : Int) < (m : Int) := by omega
              have q1 : decide ((s : Int) < (m : Int)) = false := by simp only [decide_eq_false_iff_not]; exact q1p
              have q2p : ¬ (m : Int) < (md : Int) + (m : Int) - (s : Int) := by omega
              have q2 : decide ((m : Int) < (md : Int) + (m : Int) - (s : Int)) = false := by simp only [decide_eq_false_iff_not]; exact q2p
              have q3p : (a : Int) < (s : Int) := by omega
              have q3 : decide ((a : Int) < (s : Int)) = true := by simp only [decide_eq_true_eq]; exact q3p
              have q4p : ¬ (s : Int) < (md : Int) := by omega
              have q4 : decide ((s : Int) < (md : Int)) = false := by simp only [decide_eq_false_iff_not]; exact q4p
              have q5p : ¬ (md : Int) < (md : Int) + (m : Int) - (s : Int) := by omega
              have q5 : decide ((md : Int) < (md : Int) + (m : Int) - (s : Int)) = false := by simp only [decide_eq_false_iff_not]; exact q5p
              have q6p : (md : Int) + (m : Int) - (s : Int) < (b : Int) := by omega
              have q6 : decide ((md : Int) + (m : Int) - (s : Int) < (b : Int)) = true := by simp only [decide_eq_true_eq]; exact q6p
              obtain ⟨d2, w2, hd2, hw2⟩ : ∃ d2 w2, d2 = d ∧ w2 = wr := ⟨d, wr, rfl, rfl⟩
              have HD2 : Hid (d2.toList = A ++ U1 ++ V1 ++ (U2 ++ V2 ++ C)) := by
                show _ = _
                rw [hd2, HD.out, HP.out.1, HP.out.2.1, HZ2.out]
                simp
              have S2' : Aside (SWK oC k w0 blk off d2 w2) := by rw [hd2, hw2]; exact S1
              clear S1 hd2
              subst hw2
              have hs2 : d2.size = d.size := by have h1 := size_of HD2.out; have h2 := size_of HD.out; have h3 := HP.out.1; have h4 := HP.out.2.1; rw [h3, h4] at h2; simp at h1 h2; omega
              obtain ⟨d3, r1, hd3, hr1⟩ : ∃ d3 r1, d3 = d2 ∧ r1 = U1 ++ V1 := ⟨d2, _, rfl, rfl⟩
              have HD3 : Hid (d3.toList = (A ++ r1) ++ U2 ++ V2 ++ C ∧ Srt (ltOf cf) r1 ∧ Stb (ltOf cf) (U1 ++ V1) r1 ∧ r1.length = U1.length + V1.length) := ⟨by rw [hd3, HD2.out, hr1]; simp, by rw [hr1]; rw [HZ3.out, List.append_nil]; exact HSU.out.1, by rw [hr1]; exact Stb.refl _, by rw [hr1]; simp⟩
              rw [← hd3] at S2'
              have S3' : Aside _ := S2'.out
              clear S2' hd3 hr1
              have hs3 : d3.size = d.size := by have h1 := size_of HD3.out.1; have h2 := size_of HD2.out; have h3 := HD3.out.2.2.2; simp at h1 h2; omega
              obtain ⟨d4, r2, hd4, hr2⟩ : ∃ d4 r2, d4 = d3 ∧ r2 = U2 ++ V2 := ⟨d3, _, rfl, rfl⟩
              have HD4 : Hid (d4.toList = A ++ r1 ++ r2 ++ C ∧ Srt (ltOf cf) r2 ∧ Stb (ltOf cf) (U2 ++ V2) r2 ∧ r2.length = U2.length + V2.length) := ⟨by rw [hd4, HD3.out.1, hr2]; simp, by rw [hr2]; rw [HZ2.out]; exact HSV.out.2, by rw [hr2]; exact Stb.refl _, by rw [hr2]; simp⟩
              rw [← hd4] at S3'
              have S4' : Aside _ := S3'.out
              clear S3' hd4 hr2
              go_wp2
              go_end0
              have hr := merge_halves HH.out (u1 := U1) (u2 := U2) (v1 := V1) (v2 := V2) (r1 := r1) (r2 := r2) (by rw [← HP.out.1]; exact HU.out) (by rw [← HP.out.2.1]; exact HV.out) H12.out H21.out HD3.out.2.1 HD4.out.2.1 HD3.out.2.2.1 HD4.out.2.2.1
              refine ⟨rfl, d4, r1 ++ r2, by rw [HD4.out.1]; simp, hr.1, by rw [HP.out.1, HP.out.2.1]; exact hr.2, ?_, S4'.out⟩
              have h1 := HD3.out.2.2.2
              have h2 := HD4.out.2.2.2
              have h3 := HP.out.1
              have h4 := HP.out.2.1
              rw [h3, h4]; simp; omega
            · have HZ4 : Hid (V2 = []) := List.eq_nil_of_length_eq_zero (by have := HP.out.2.2; omega)
              exfalso; omega
      · have HZ1 : Hid (U1 = []) := List.eq_nil_of_length_eq_zero (by have := HP.out.2.2; omega)
        by_cases t1 : s < m
        · by_cases t2 : s < md
          · by_cases t3 : md + m < b + s
            · have q1p : (s : Int) < (m : Int) := by omega
              have q1 : decide ((s : Int) < (m : Int)) = true := by simp only [decide_eq_true_eq]; exact q1p
              have q2p : (m : Int) < (md : Int) + (m : Int) - (s : Int) := by omega
              have q2 : decide ((m : Int) < (md : Int) + (m : Int) - (s : Int)) = true := by simp only [decide_eq_true_eq]; exact q2p
              have q3p : ¬ (a : Int) < (s : Int) := by omega
              have q3 : decide ((a : Int) < (s : Int)) = false := by simp only [decide_eq_false_iff_not]; exact q3p
              have q4p : (s : Int) < (md : Int) := by omega
              have q4 : decide ((s : Int) < (md : Int)) = true := by simp only [decide_eq_true_eq]; exact q4p
              have q5p : (md : Int) < (md : Int) + (m : Int) - (s : Int) := by omega
              have q5 : decide ((md : Int) < (md : Int) + (m : Int) - (s : Int)) = true := by simp only [decide_eq_true_eq]; exact q5p
              have q6p : (md : Int) + (m : Int) - (s : Int) < (b : Int) := by omega
              have q6 : decide ((md : Int) + (m : Int) - (s : Int) < (b : Int)) = true := by simp only [decide_eq_true_eq]; exact q6p
              have HR : Hid _ := rotate_int k aE zE (.func (.func g) #[] cb) blk off cap (s : Int) (m : Int) ((md : Int) + (m : Int) - (s : Int)) (d.size : Int) d0 d w0 wr R rfl hs S1.out (A ++ U1) U2 V1 (V2 ++ C) (by rw [HD.out, HP.out.1, HP.out.2.1]; simp) (by have := HP.out.2.2; have := HA.out; simp; omega) (by have := HP.out.2.2; have := HA.out; simp; omega) (by have := HP.out.2.2; have := HA.out; simp; omega) (by have := HP.out.2.2; have := HA.out; omega) (by have := HP.out.2.2; have := HA.out; omega) hsz
              rw [Int.toNat_natCast] at HR
              clear S1
              go_wp2_with fail
              refine Calls.mono HR.out ?_
              rintro e w2 ⟨rfl, d2, hd2, S2⟩
              have HD2 : Hid (d2.toList = A ++ U1 ++ V1 ++ (U2 ++ V2 ++ C)) := by show _ = _; rw [hd2]; simp
              have S2' : Aside _ := S2
              clear S2 hd2 HR
              have hs2 : d2.size = d.size := by have h1 := size_of HD2.out; have h2 := size_of HD.out; have h3 := HP.out.1; have h4 := HP.out.2.1; rw [h3, h4] at h2; simp at h1 h2; omega
              obtain ⟨d3, r1, hd3, hr1⟩ : ∃ d3 r1, d3 = d2 ∧ r1 = U1 ++ V1 := ⟨d2, _, rfl, rfl⟩
              have HD3 : Hid (d3.toList = (A ++ r1) ++ U2 ++ V2 ++ C ∧ Srt (ltOf cf) r1 ∧ Stb (ltOf cf) (U1 ++ V1) r1 ∧ r1.length = U1.length + V1.length) := ⟨by rw [hd3, HD2.out, hr1]; simp, by rw [hr1]; rw [HZ1.out]; exact HSV.out.1, by rw [hr1]; exact Stb.refl _, by rw [hr1]; simp⟩
              rw [← hd3] at S2'
              have S3' : Aside _ := S2'.out
              clear S2' hd3 hr1
              have hs3 : d3.size = d.size := by have h1 := size_of HD3.out.1; have h2 := size_of HD2.out; have h3 := HD3.out.2.2.2; simp at h1 h2; omega
              have HL : Hid _ := IH (md : Int) ((md : Int) + (m : Int) - (s : Int)) (b : Int) (d.size : Int) d3 _ (A ++ r1) U2 V2 C (by have h3 := HP.out.1; have h4 := HP.out.2.1; have h5 := HN.out; have := HP.out.2.2; rw [h3, h4] at h5; simp at h5; omega) (by omega) (by omega) S3'.out HD3.out.1 (by have := HP.out.2.2; have := HA.out; have := HD3.out.2.2.2; simp; omega) (by have := HP.out.2.2; have := HA.out; have := HD3.out.2.2.2; simp; omega) (by have := HP.out.2.2; have := HA.out; have := HD3.out.2.2.2; simp; omega) (by have := HP.out.2.2; omega) (by have := HP.out.2.2; omega) HSU.out.2 HSV.out.2 (by omega)
              rw [Int.toNat_natCast] at HL
              clear S3'
              go_wp2_with fail
              refine Calls.mono HL.out ?_
              rintro e w4 ⟨rfl, d4, r2, hd4, hr4, hr5, hr6, S4⟩
              have HD4 : Hid (d4.toList = A ++ r1 ++ r2 ++ C ∧ Srt (ltOf cf) r2 ∧ Stb (ltOf cf) (U2 ++ V2) r2 ∧ r2.length = U2.length + V2.length) := ⟨hd4, hr4, hr5, hr6⟩
              have S4' : Aside _ := S4
              clear S4 hd4 hr4 hr5 hr6 HL
              go_wp2
              go_end0
              have hr := merge_halves HH.out (u1 := U1) (u2 := U2) (v1 := V1) (v2 := V2) (r1 := r1) (r2 := r2) (by rw [← HP.out.1]; exact HU.out) (by rw [← HP.out.2.1]; exact HV.out) H12.out H21.out HD3.out.2.1 HD4.out.2.1 HD3.out.2.2.1 HD4.out.2.2.1
              refine ⟨rfl, d4, r1 ++ r2, by rw [HD4.out.1]; simp, hr.1, by rw [HP.out.1, HP.out.2.1]; exact hr.2, ?_, S4'.out⟩
              have h1 := HD3.out.2.2.2
              have h2 := HD4.out.2.2.2
              have h3 := HP.out.1
              have h4 := HP.out.2.1
              rw [h3, h4]; simp; omega
            · have HZ4 : Hid (V2 = []) := List.eq_nil_of_length_eq_zero (by have := HP.out.2.2; omega)
              have q1p : (s : Int) < (m : Int) := by omega
              have q1 : decide ((s : Int) < (m : Int)) = true := by simp only [decide_eq_true_eq]; exact q1p
              have q2p : (m : Int) < (md : Int) + (m : Int) - (s : Int) := by omega
              have q2 : decide ((m : Int) < (md : Int) + (m : Int) - (s : Int)) = true := by simp only [decide_eq_true_eq]; exact q2p
              have q3p : ¬ (a : Int) < (s : Int) := by omega
              have q3 : decide ((a : Int) < (s : Int)) = false := by simp only [decide_eq_false_iff_not]; exact q3p
              have q4p : (s : Int) < (md : Int) := by omega
              have q4 : decide ((s : Int) < (md : Int)) = true := by simp only [decide_eq_true_eq]; exact q4p
              have q5p : (md : Int) < (md : Int) + (m : Int) - (s : Int) := by omega
              have q5 : decide ((md : Int) < (md : Int) + (m : Int) - (s : Int)) = true := by simp only [decide_eq_true_eq]; exact q5p
              have q6p : ¬ (md : Int) + (m : Int) - (s : Int) < (b : Int) := by omega
              have q6 : decide ((md : Int) + (m : Int) - (s : Int) < (b : Int)) = false := by simp only [decide_eq_false_iff_not]; exact q6p
              have HR : Hid _ := rotate_int k aE zE (.func (.func g) #[] cb) blk off cap (s : Int) (m : Int) ((md : Int) + (m : Int) - (s : Int)) (d.size : Int) d0 d w0 wr R rfl hs S1.out (A ++ U1) U2 V1 (V2 ++ C) (by rw [HD.out, HP.out.1, HP.out.2.1]; simp) (by have := HP.out.2.2; have := HA.out; simp; omega) (by have := HP.out.2.2; have := HA.out; simp; omega) (by have := HP.out.2.2; have := HA.out; simp; omega) (by have := HP.out.2.2; have := HA.out; omega) (by have := HP.out.2.2; have := HA.out; omega) hsz
              rw [Int.toNat_natCast] at HR
              clear S1
              go_wp2_with fail
              refine Calls.mono HR.out ?_
              rintro e w2 ⟨rfl, d2, hd2, S2⟩
              have HD2 : Hid (d2.toList = A ++ U1 ++ V1 ++ (U2 ++ V2 ++ C)) := by show _ = _; rw [hd2]; simp
              have S2' : Aside _ := S2
              clear S2 hd2 HR
              have hs2 : d2.size = d.size := by have h1 := size_of HD2.out; have h2 := size_of HD.out; have h3 := HP.out.1; have h4 := HP.out.2.1; rw [h3, h4] at h2; simp at h1 h2; omega
              obtain ⟨d3, r1, hd3, hr1⟩ : ∃ d3 r1, d3 = d2 ∧ r1 = U1 ++ V1 := ⟨d2, _, rfl, rfl⟩
              have HD3 : Hid (d3.toList = (A ++ r1) ++ U2 ++ V2 ++ C ∧ Srt (ltOf cf) r1 ∧ Stb (ltOf cf) (U1 ++ V1) r1 ∧ r1.length = U1.length + V1.length) := ⟨by rw [hd3, HD2.out, hr1]; simp, by rw [hr1]; rw [HZ1.out]; exact HSV.out.1, by rw [hr1]; exact Stb.refl _, by rw [hr1]; simp⟩
              rw [← hd3] at S2'
              have S3' : Aside _ := S2'.out
              clear S2' hd3 hr1
              have hs3 : d3.size = d.size := by have h1 := size_of HD3.out.1; have h2 := size_of HD2.out; have h3 := HD3.out.2.2.2; simp at h1 h2; omega
              obtain ⟨d4, r2, hd4, hr2⟩ : ∃ d4 r2, d4 = d3 ∧ r2 = U2 ++ V2 := ⟨d3, _, rfl, rfl⟩
              have HD4 : Hid (d4.toList = A ++ r1 ++ r2 ++ C ∧ Srt (ltOf cf) r2 ∧ Stb (ltOf cf) (U2 ++ V2) r2 ∧ r2.length = U2.length + V2.length) := ⟨by rw [hd4, HD3.out.1, hr2]; simp, by rw [hr2]; rw [HZ4.out, List.append_nil]; exact HSU.out.2, by rw [hr2]; exact Stb.refl _, by rw [hr2]; simp⟩
              rw [← hd4] at S3'
              have S4' : Aside _ := S3'.out
              clear S3' hd4 hr2
              go_wp2
              go_end0
              have hr := merge_halves HH.out (u1 := U1) (u2 := U2) (v1 := V1) (v2 := V2) (r1 := r1) (r2 := r2) (by rw [← HP.out.1]; exact HU.out) (by rw [← HP.out.2.1]; exact HV.out) H12.out H21.out HD3.out.2.1 HD4.out.2.1 HD3.out.2.2.1 HD4.out.2.2.1
              refine ⟨rfl, d4, r1 ++ r2, by rw [HD4.out.1]; simp, hr.1, by rw [HP.out.1, HP.out.2.1]; exact hr.2, ?_, S4'.out⟩
              have h1 := HD3.out.2.2.2
              have h2 := HD4.out.2.2.2
              have h3 := HP.out.1
              have h4 := HP.out.2.1
              rw [h3, h4]; simp; omega
          · have HZ3 : Hid (V1 = []) := List.eq_nil_of_length_eq_zero (by have := HP.out.2.2; omega)
            by_cases t3 : md + m < b + s
            · exfalso; omega
            · have HZ4 : Hid (V2 = []) := List.eq_nil_of_length_eq_zero (by have := HP.out.2.2; omega)
              exfalso; omega
        · have HZ2 : Hid (U2 = []) := List.eq_nil_of_length_eq_zero (by have := HP.out.2.2; omega)
          by_cases t2 : s < md
          · by_cases t3 : md + m < b + s
            · exfalso; omega
            · have HZ4 : Hid (V2 = []) := List.eq_nil_of_length_eq_zero (by have := HP.out.2.2; omega)
              exfalso; omega
          · have HZ3 : Hid (V1 = []) := List.eq_nil_of_length_eq_zero (by have := HP.out.2.2; omega)
            by_cases t3 : md + m < b + s
            · exfalso; omega
            · have HZ4 : Hid (V2 = []) := List.eq_nil_of_length_eq_zero (by have := HP.out.2.2; omega)
              exfalso; omega

set_option maxHeartbeats 16000000 in
set_option maxRecDepth 1000000 in
theorem sym_lo (k : Nat) (aE : ∀ w, (isAgg 51).run Tryz.prog w = .ok true w) (zE : ∀ w, (Go.sizeOf 51).run Tryz.prog w = .ok k w) (cf : Od → Od → Int) (hO : SWO (ltOf cf)) (g : Nat) (cb : Array Value) (blk off cap : Nat) (a m b : Nat) (d0 d : Array Od) (w0 w : World) (eg : ∀ args w, (callFunc g args).run Tryz.prog w = .ok (.enter g args) w) (hcmp : CmpLays Tryz.prog g cb oC k cf blk off d0.size w0) (R : RowK oC k w0 blk off d0) (hs : d0.size = d.size) (S : SWK oC k w0 blk off d w) (A U V C : List Od)
    (hd : d.toList = A ++ U ++ V ++ C) (ha : a = A.length) (hm : m = A.length + U.length) (hb : b = A.length + U.length + V.length) (sU : Srt (ltOf cf) U) (sV : Srt (ltOf cf) V) (hsz : d.size < 1000000) (hu2 : 2 ≤ U.length) (hv2 : 2 ≤ V.length) (N md : Nat) (hN : N = U.length + V.length) (hmd1 : 2 * md ≤ a + b) (hmd2 : a + b < 2 * md + 2) (hmm : m ≤ md) (IH : ∀ (a m b z : Int) (d : Array Od) (w : World) (A U V C : List Od), U.length + V.length < N → z = d.size → d0.size = d.size → SWK oC k w0 blk off d w → d.toList = A ++ U ++ V ++ C → a = A.length → m = A.length + U.length → b = A.length + U.length + V.length → 0 < U.length → 0 < V.length → Srt (ltOf cf) U → Srt (ltOf cf) V → d.size < 1000000 → Calls Tryz.prog 157 #[.slice (some ⟨blk, off, none⟩) z.toNat cap, .int .i64 a, .int .i64 m, .int .i64 b, .func (.func g) #[] cb] w fun e w' => e = .returned (.tuple #[]) ∧ ∃ (d' : Array Od) (r : List Od), d'.toList = A ++ r ++ C ∧ Srt (ltOf cf) r ∧ Stb (ltOf cf) (U ++ V) r ∧ r.length = U.length + V.length ∧ SWK oC k w0 blk off d' w') :
    Calls Tryz.prog 157 #[.slice (some ⟨blk, off, none⟩) d.size cap, .int .i64 a, .int .i64 m, .int .i64 b, .func (.func g) #[] cb] w fun e w' => e = .returned (.tuple #[]) ∧ ∃ (d' : Array Od) (r : List Od), d'.toList = A ++ r ++ C ∧ Srt (ltOf cf) r ∧ Stb (ltOf cf) (U ++ V) r ∧ r.length = U.length + V.length ∧ SWK oC k w0 blk off d' w' := by
  have mixed : Tryz.prog.follows .mixedOrders = true := by kernel_rfl
  have hsd := size_of hd
  simp only [List.length_append] at hsd
  have S0 : Aside (SWK oC k w0 blk off d w) := S
  have HC : Aside _ := hcmp
  have HD : Hid _ := hd
  have HA : Hid (a = A.length ∧ m = A.length + U.length ∧ b = A.length + U.length + V.length ∧ d.size = A.length + U.length + V.length + C.length) := ⟨ha, hm, hb, hsd⟩
  have HH : Hid _ := hO
  have HU : Hid _ := sU
  have HV : Hid _ := sV
  have HN : Hid _ := hN
  have c00 : ((m : Int) - (a : Int) == 1) = false := by simp; omega
  have c01 : ¬ (m : Int) - (a : Int) = 1 := by omega
  have c02 : ((b : Int) - (m : Int) == 1) = false := by simp; omega
  have c03 : ¬ (b : Int) - (m : Int) = 1 := by omega
  have hmid : ((a : Int) + (b : Int)) / 2 = (md : Int) := by omega
  have c04 : decide ((md : Int) < (m : Int)) = false := by simp only [decide_eq_false_iff_not]; omega
  have c05 : ¬ (md : Int) < (m : Int) := by omega
  have ham : a < m := by omega
  have hmb : m < b := by omega
  have hbd : b ≤ d.size := by omega
  have hab4 : a + 4 ≤ b := by omega
  clear S hcmp hd ha hm hb hsd hO sU sV hu2 hv2 hN
  go_enter Tryz.func157, Tryz.ntmps157
  go_wp2
  go_loopg [20, 21] (b - a) (fun g1 vs vr wr => ∃ (s r : Nat), vs = .int .i64 s ∧ vr = .int .i64 r ∧ a ≤ s ∧ s ≤ r ∧ r ≤ m ∧ r - s ≤ g1 ∧ Hid ((s = a ∨ ltOf cf d[md + m - s]! d[s - 1]! = false) ∧ (r = m ∨ ltOf cf d[md + m - 1 - r]! d[r]! = true)) ∧ Aside (SWK oC k w0 blk off d wr))
  case atStart => exact ⟨a, m, by first | rfl | (congr 1; omega), rfl, Nat.le_refl _, by omega, Nat.le_refl _, by omega, ⟨Or.inl rfl, Or.inl rfl⟩, S0⟩
  case round =>
    clear S0
    obtain ⟨s, r, rfl, rfl, h0s, hsr, hr0, hg1, HI, S1⟩ := hrel
    by_cases hlt : s < r
    · have hltz : (s : Int) < (r : Int) := by omega
      have hmid2 : ((s : Int) + (r : Int)) / 2 = (((s + r) / 2 : Nat) : Int) := by omega
      obtain ⟨c, hh⟩ : ∃ c, (s + r) / 2 = c := ⟨_, rfl⟩
      have hih : s ≤ c := by omega
      have hhj : c < r := by omega
      rw [hh] at hmid2
      clear hh
      obtain ⟨t, htt⟩ : ∃ t, md + m - 1 - c = t := ⟨_, rfl⟩
      have hpc : (md : Int) + (m : Int) - 1 - (c : Int) = (t : Int) := by omega
      have htb : t < b := by omega
      have HT : Hid _ := htt
      clear htt
      obtain ⟨x, hx⟩ : ∃ x, d[t]! = x := ⟨_, rfl⟩
      obtain ⟨y, hy⟩ : ∃ y, d[c]! = y := ⟨_, rfl⟩
      have HX : Hid _ := hx
      have HY : Hid _ := hy
      clear hx hy
      by_cases hlv : cf x y < 0
      · go_wp2_with fail
        have ea40 : ((t : Int)).toNat = t := by omega
        have pa40 : (0 : Int) ≤ (t : Int) := by omega
        have ba40 : (t : Int) < (d.size : Int) := by omega
        have ra40 : IntKind.i64.wrap ((t : Int)) = (t : Int) := by rw [IntKind.wrap_i64]; omega
        have ec40 : ((c : Int)).toNat = c := by omega
        have pc40 : (0 : Int) ≤ (c : Int) := by omega
        have bc40 : (c : Int) < (d.size : Int) := by omega
        have rc40 : IntKind.i64.wrap ((c : Int)) = (c : Int) := by rw [IntKind.wrap_i64]; omega
        have l40a := S1.out.ld R (by omega) Tryz.prog (t) (by omega)
        have l40b := S1.out.ld R (by omega) Tryz.prog (c) (by omega)
        rw [HX.out] at l40a
        rw [HY.out] at l40b
        have hc40 := S1.out.cmp HC.out (by omega) x y
        have hd40 : decide (cf x y < 0) = true := by exact decide_eq_true hlv
        go_wp2_with fail
        go_quiet_grown (first | (go_at_fn g; refine Calls.grown_of (hc40 _ _)))
        have S2 : Aside (SWK oC k w0 blk off d (grow (wr.drewN nq) osq)) := S1.out.grown nq osq
        clear l40a l40b hc40 S1
        generalize grow (wr.drewN nq) osq = w2 at S2 ⊢
        clear nq osq
        go_wp2
        go_roundg (c - s)
        case measure => omega
        case rel => exact ⟨s, c, rfl, rfl, h0s, hih, by omega, Nat.le_refl _, ⟨HI.out.1, Or.inr (by rw [HT.out, HX.out, HY.out]; exact decide_eq_true hlv)⟩, S2⟩
      · go_wp2_with fail
        have ea41 : ((t : Int)).toNat = t := by omega
        have pa41 : (0 : Int) ≤ (t : Int) := by omega
        have ba41 : (t : Int) < (d.size : Int) := by omega
        have ra41 : IntKind.i64.wrap ((t : Int)) = (t : Int) := by rw [IntKind.wrap_i64]; omega
        have ec41 : ((c : Int)).toNat = c := by omega
        have pc41 : (0 : Int) ≤ (c : Int) := by omega
        have bc41 : (c : Int) < (d.size : Int) := by omega
        have rc41 : IntKind.i64.wrap ((c : Int)) = (c : Int) := by rw [IntKind.wrap_i64]; omega
        have l41a := S1.out.ld R (by omega) Tryz.prog (t) (by omega)
        have l41b := S1.out.ld R (by omega) Tryz.prog (c) (by omega)
        rw [HX.out] at l41a
        rw [HY.out] at l41b
        have hc41 := S1.out.cmp HC.out (by omega) x y
        have hd41 : decide (cf x y < 0) = false := by simp only [decide_eq_false_iff_not]; omega
        go_wp2_with fail
        go_quiet_grown (first | (go_at_fn g; refine Calls.grown_of (hc41 _ _)))
        have S2 : Aside (SWK oC k w0 blk off d (grow (wr.drewN nq) osq)) := S1.out.grown nq osq
        clear l41a l41b hc41 S1
        generalize grow (wr.drewN nq) osq = w2 at S2 ⊢
        clear nq osq
        go_wp2
        go_roundg (r - (c + 1))
        case measure => omega
        case rel => exact ⟨c + 1, r, by go_num, rfl, by omega, by omega, hr0, Nat.le_refl _, ⟨Or.inr (by rw [show md + m - (c + 1) = md + m - 1 - c by omega, HT.out, Nat.add_sub_cancel, HX.out, HY.out]; exact decide_eq_false (by omega)), HI.out.2⟩, S2⟩
    · have hltz : ¬ (s : Int) < (r : Int) := by omega
      have hrs : r = s := by omega
      subst hrs
      obtain ⟨U1, U2, hU, hU1⟩ : ∃ U1 U2, U = U1 ++ U2 ∧ U1.length = r - a := cut2 (by have := HA.out; omega)
      obtain ⟨V1, V2, hV, hV1⟩ : ∃ V1 V2, V = V1 ++ V2 ∧ V1.length = md - r := cut2 (by have := HA.out; omega)
      have HP : Hid (U = U1 ++ U2 ∧ V = V1 ++ V2 ∧ U1.length + a = r ∧ V1.length + r = md ∧ U2.length + r = m ∧ V2.length + md + m = b + r) := by
        have h1 := HA.out; rw [hU, hV] at h1; simp at h1
        exact ⟨hU, hV, by omega, by omega, by omega, by omega⟩
      have HSU : Hid (Srt (ltOf cf) U1 ∧ Srt (ltOf cf) U2) := by have := HU.out; rw [hU] at this; exact ⟨Srt.left this, Srt.right this⟩
      have HSV : Hid (Srt (ltOf cf) V1 ∧ Srt (ltOf cf) V2) := by have := HV.out; rw [hV] at this; exact ⟨Srt.left this, Srt.right this⟩
      clear hU hU1 hV hV1
      have H12 : Hid (∀ x ∈ V1, ∀ y ∈ U2, ltOf cf x y = true) := by
        intro x hx y hy
        obtain ⟨p1, p2, p3, p4, p5, p6⟩ := HP.out
        have hsv := HSV.out.1
        have hsu := HSU.out.2
        obtain ⟨V0, l, rfl⟩ : ∃ V0 l, V1 = V0 ++ [l] := by
          rcases List.eq_nil_or_concat V1 with e | ⟨s0, y, e⟩
          · rw [e] at hx; cases hx
          · exact ⟨s0, y, by simpa using e⟩
        obtain ⟨h, U3, rfl⟩ : ∃ h U3, U2 = h :: U3 := by
          cases U2 with
          | nil => cases hy
          | cons h t => exact ⟨h, t, rfl⟩
        simp at p4 p5 p6
        have hp := HI.out.2.resolve_left (by have := HA.out; omega)
        have g1 : d[r]! = h := get_mid (A := A ++ U1) (C := U3 ++ V ++ C) (by rw [HD.out, p1]; simp) (by have := HA.out; simp; omega)
        have g2 : d[md + m - 1 - r]! = l := get_mid (A := A ++ U ++ V0) (C := V2 ++ C) (by rw [HD.out, p2]; simp) (by have := HA.out; simp; omega)
        rw [g1, g2] at hp
        have hx2 : ltOf cf l x = false := by
          rcases List.mem_append.1 hx with e | e
          · exact Srt.cross hsv x e l (List.mem_singleton.2 rfl)
          · rw [List.mem_singleton.1 e]; exact HH.out.irrefl l
        have hy2 : ltOf cf y h = false := by
          rcases List.mem_cons.1 hy with e | e
          · rw [e]; exact HH.out.irrefl h
          · exact (List.pairwise_cons.1 hsu).1 y e
        exact lt_of_lt_le HH.out (lt_of_le_lt HH.out hx2 hp) hy2
      have H21 : Hid (∀ x ∈ U1, ∀ y ∈ V2, ltOf cf y x = false) := by
        intro x hx y hy
        obtain ⟨p1, p2, p3, p4, p5, p6⟩ := HP.out
        have hsv := HSV.out.2
        have hsu := HSU.out.1
        obtain ⟨U0, l, rfl⟩ : ∃ U0 l, U1 = U0 ++ [l] := by
          rcases List.eq_nil_or_concat U1 with e | ⟨s0, y, e⟩
          · rw [e] at hx; cases hx
          · exact ⟨s0, y, by simpa using e⟩
        obtain ⟨h, V3, rfl⟩ : ∃ h V3, V2 = h :: V3 := by
          cases V2 with
          | nil => cases hy
          | cons h t => exact ⟨h, t, rfl⟩
        simp at p3 p6
        have hp := HI.out.1.resolve_left (by have := HA.out; omega)
        have g1 : d[r - 1]! = l := get_mid (A := A ++ U0) (C := U2 ++ V ++ C) (by rw [HD.out, p1]; simp) (by have := HA.out; simp; omega)
        have g2 : d[md + m - r]! = h := get_mid (A := A ++ U ++ V1) (C := V3 ++ C) (by rw [HD.out, p2]; simp) (by have := HA.out; simp; omega)
        rw [g1, g2] at hp
        have hx2 : ltOf cf l x = false := by
          rcases List.mem_append.1 hx with e | e
          · exact Srt.cross hsu x e l (List.mem_singleton.2 rfl)
          · rw [List.mem_singleton.1 e]; exact HH.out.irrefl l
        have hy2 : ltOf cf y h = false := by
          rcases List.mem_cons.1 hy with e | e
          · rw [e]; exact HH.out.irrefl h
          · exact (List.pairwise_cons.1 hsv).1 y e
        exact HH.out.ntrans y l x (HH.out.ntrans y h l hy2 hp) hx2
      clear HI
      obtain ⟨s, hss⟩ : ∃ s, s = r := ⟨_, rfl⟩
      subst hss
      by_cases t0 : a < s
      · by_cases t1 : s < m
        · by_cases t2 : s < md
          · by_cases t3 : md + m < b + s
            · have q1p : (s : Int) < (m : Int) := by omega
              have q1 : decide ((s : Int) < (m : Int)) = true := by simp only [decide_eq_true_eq]; exact q1p
              have q2p : (m : Int) < (md : Int) + (m : Int) - (s : Int) := by omega
              have q2 : decide ((m : Int) < (md : Int) + (m : Int) - (s : Int)) = true := by simp only [decide_eq_true_eq]; exact q2p
              have q3p : (a : Int) < (s : Int) := by omega
              have q3 : decide ((a : Int) < (s : Int)) = true := by simp only [decide_eq_true_eq]; exact q3p
              have q4p : (s : Int) < (md : Int) := by omega
              have q4 : decide ((s : Int) < (md : Int)) = true := by simp only [decide_eq_true_eq]; exact q4p
              have q5p : (md : Int) < (md : Int) + (m : Int) - (s : Int) := by omega
              have q5 : decide ((md : Int) < (md : Int) + (m : Int) - (s : Int)) = true := by simp only [decide_eq_true_eq]; exact q5p
              have q6p : (md : Int) + (m : Int) - (s : Int) < (b : Int) := by omega
              have q6 : decide ((md : Int) + (m : Int) - (s : Int) < (b : Int)) = true := by simp only [decide_eq_true_eq]; exact q6p
              have HR : Hid _ := rotate_int k aE zE (.func (.func g) #[] cb) blk off cap (s : Int) (m : Int) ((md : Int) + (m : Int) - (s : Int)) (d.size : Int) d0 d w0 wr R rfl hs S1.out (A ++ U1) U2 V1 (V2 ++ C) (by rw [HD.out, HP.out.1, HP.out.2.1]; simp) (by have := HP.out.2.2; have := HA.out; simp; omega) (by have := HP.out.2.2; have := HA.out; simp; omega) (by have := HP.out.2.2; have := HA.out; simp; omega) (by have := HP.out.2.2; have := HA.out; omega) (by have := HP.out.2.2; have := HA.out; omega) hsz
              rw [Int.toNat_natCast] at HR
              clear S1
              go_wp2_with fail
              refine Calls.mono HR.out ?_
              rintro e w2 ⟨rfl, d2, hd2, S2⟩
              have HD2 : Hid (d2.toList = A ++ U1 ++ V1 ++ (U2 ++ V2 ++ C)) := by show _ = _; rw [hd2]; simp
              have S2' : Aside _ := S2
              clear S2 hd2 HR
              have hs2 : d2.size = d.size := by have h1 := size_of HD2.out; have h2 := size_of HD.out; have h3 := HP.out.1; have h4 := HP.out.2.1; rw [h3, h4] at h2; simp at h1 h2; omega
              have HL : Hid _ := IH (a : Int) (s : Int) (md : Int) (d.size : Int) d2 _ A U1 V1 (U2 ++ V2 ++ C) (by have h3 := HP.out.1; have h4 := HP.out.2.1; have h5 := HN.out; have := HP.out.2.2; rw [h3, h4] at h5; simp at h5; omega) (by omega) (by omega) S2'.out (by rw [HD2.out]) (by have := HA.out; omega) (by have := HP.out.2.2; have := HA.out; omega) (by have := HP.out.2.2; have := HA.out; omega) (by have := HP.out.2.2; omega) (by have := HP.out.2.2; omega) HSU.out.1 HSV.out.1 (by omega)
              rw [Int.toNat_natCast] at HL
              clear S2'
              go_wp2_with fail
              refine Calls.mono HL.out ?_
              rintro e w3 ⟨rfl, d3, r1, hd3, hr1, hr2, hr3, S3⟩
              have HD3 : Hid (d3.toList = (A ++ r1) ++ U2 ++ V2 ++ C ∧ Srt (ltOf cf) r1 ∧ Stb (ltOf cf) (U1 ++ V1) r1 ∧ r1.length = U1.length + V1.length) := ⟨by rw [hd3]; simp, hr1, hr2, hr3⟩
              have S3' : Aside _ := S3
              clear S3 hd3 hr1 hr2 hr3 HL
              have hs3 : d3.size = d.size := by have h1 := size_of HD3.out.1; have h2 := size_of HD2.out; have h3 := HD3.out.2.2.2; simp at h1 h2; omega
              have HL : Hid _ := IH (md : Int) ((md : Int) + (m : Int) - (s : Int)) (b : Int) (d.size : Int) d3 _ (A ++ r1) U2 V2 C (by have h3 := HP.out.1; have h4 := HP.out.2.1; have h5 := HN.out; have := HP.out.2.2; rw [h3, h4] at h5; simp at h5; omega) (by omega) (by omega) S3'.out HD3.out.1 (by have := HP.out.2.2; have := HA.out; have := HD3.out.2.2.2; simp; omega) (by have := HP.out.2.2; have := HA.out; have := HD3.out.2.2.2; simp; omega) (by have := HP.out.2.2; have := HA.out; have := HD3.out.2.2.2; simp; omega) (by have := HP.out.2.2; omega) (by have := HP.out.2.2; omega) HSU.out.2 HSV.out.2 (by omega)
              rw [Int.toNat_natCast] at HL
              clear S3'
              go_wp2_with fail
              refine Calls.mono HL.out ?_
              rintro e w4 ⟨rfl, d4, r2, hd4, hr4, hr5, hr6, S4⟩
              have HD4 : Hid (d4.toList = A ++ r1 ++ r2 ++ C ∧ Srt (ltOf cf) r2 ∧ Stb (ltOf cf) (U2 ++ V2) r2 ∧ r2.length = U2.length + V2.length) := ⟨hd4, hr4, hr5, hr6⟩
              have S4' : Aside _ := S4
              clear S4 hd4 hr4 hr5 hr6 HL
              go_wp2
              go_end0
              have hr := merge_halves HH.out (u1 := U1) (u2 := U2) (v1 := V1) (v2 := V2) (r1 := r1) (r2 := r2) (by rw [← HP.out.1]; exact HU.out) (by rw [← HP.out.2.1]; exact HV.out) H12.out H21.out HD3.out.2.1 HD4.out.2.1 HD3.out.2.2.1 HD4.out.2.2.1
              refine ⟨rfl, d4, r1 ++ r2, by rw [HD4.out.1]; simp, hr.1, by rw [HP.out.1, HP.out.2.1]; exact hr.2, ?_, S4'.out⟩
              have h1 := HD3.out.2.2.2
              have h2 := HD4.out.2.2.2
              have h3 := HP.out.1
              have h4 := HP.out.2.1
              rw [h3, h4]; simp; omega
            · have HZ4 : Hid (V2 = []) := List.eq_nil_of_length_eq_zero (by have := HP.out.2.2; omega)
              have q1p : (s : Int) < (m : Int) := by omega
              have q1 : decide ((s : Int) < (m : Int)) = true := by simp only [decide_eq_true_eq]; exact q1p
              have q2p : (m : Int) < (md : Int) + (m : Int) - (s : Int) := by omega
              have q2 : decide ((m : Int) < (md : Int) + (m : Int) - (s : Int)) = true := by simp only [decide_eq_true_eq]; exact q2p
              have q3p : (a : Int) < (s : Int) := by omega
              have q3 : decide ((a : Int) < (s : Int)) = true := by simp only [decide_eq_true_eq]; exact q3p
              have q4p : (s : Int) < (md : Int) := by omega
              have q4 : decide ((s : Int) < (md : Int)) = true := by simp only [decide_eq_true_eq]; exact q4p
              have q5p : (md : Int) < (md : Int) + (m : Int) - (s : Int) := by omega
              have q5 : decide ((md : Int) < (md : Int) + (m : Int) - (s : Int)) = true := by simp only [decide_eq_true_eq]; exact q5p
              have q6p : ¬ (md : Int) + (m : Int) - (s : Int) < (b : Int) := by omega
              have q6 : decide ((md : Int) + (m : Int) - (s : Int) < (b : Int)) = false := by simp only [decide_eq_false_iff_not]; exact q6p
              have HR : Hid _ := rotate_int k aE zE (.func (.func g) #[] cb) blk off cap (s : Int) (m : Int) ((md : Int) + (m : Int) - (s : Int)) (d.size : Int) d0 d w0 wr R rfl hs S1.out (A ++ U1) U2 V1 (V2 ++ C) (by rw [HD.out, HP.out.1, HP.out.2.1]; simp) (by have := HP.out.2.2; have := HA.out; simp; omega) (by have := HP.out.2.2; have := HA.out; simp; omega) (by have := HP.out.2.2; have := HA.out; simp; omega) (by have := HP.out.2.2; have := HA.out; omega) (by have := HP.out.2.2; have := HA.out; omega) hsz
              rw [Int.toNat_natCast] at HR
              clear S1
              go_wp2_with fail
              refine Calls.mono HR.out ?_
              rintro e w2 ⟨rfl, d2, hd2, S2⟩
              have HD2 : Hid (d2.toList = A ++ U1 ++ V1 ++ (U2 ++ V2 ++ C)) := by show _ = _; rw [hd2]; simp
              have S2' : Aside _ := S2
              clear S2 hd2 HR
              have hs2 : d2.size = d.size := by have h1 := size_of HD2.out; have h2 := size_of HD.out; have h3 := HP.out.1; have h4 := HP.out.2.1; rw [h3, h4] at h2; simp at h1 h2; omega
              have HL : Hid _ := IH (a : Int) (s : Int) (md : Int) (d.size : Int) d2 _ A U1 V1 (U2 ++ V2 ++ C) (by have h3 := HP.out.1; have h4 := HP.out.2.1; have h5 := HN.out; have := HP.out.2.2; rw [h3, h4] at h5; simp at h5; omega) (by omega) (by omega) S2'.out (by rw [HD2.out]) (by have := HA.out; omega) (by have := HP.out.2.2; have := HA.out; omega) (by have := HP.out.2.2; have := HA.out; omega) (by have := HP.out.2.2; omega) (by have := HP.out.2.2; omega) HSU.out.1 HSV.out.1 (by omega)
              rw [Int.toNat_natCast] at HL
              clear S2'
              go_wp2_with fail
              refine Calls.mono HL.out ?_
              rintro e w3 ⟨rfl, d3, r1, hd3, hr1, hr2, hr3, S3⟩
              have HD3 : Hid (d3.toList = (A ++ r1) ++ U2 ++ V2 ++ C ∧ Srt (ltOf cf) r1 ∧ Stb (ltOf cf) (U1 ++ V1) r1 ∧ r1.length = U1.length + V1.length) := ⟨by rw [hd3]; simp, hr1, hr2, hr3⟩
              have S3' : Aside _ := S3
              clear S3 hd3 hr1 hr2 hr3 HL
              have hs3 : d3.size = d.size := by have h1 := size_of HD3.out.1; have h2 := size_of HD2.out; have h3 := HD3.out.2.2.2; simp at h1 h2; omega
              obtain ⟨d4, r2, hd4, hr2⟩ : ∃ d4 r2, d4 = d3 ∧ r2 = U2 ++ V2 := ⟨d3, _, rfl, rfl⟩
              have HD4 : Hid (d4.toList = A ++ r1 ++ r2 ++ C ∧ Srt (ltOf cf) r2 ∧ Stb (ltOf cf) (U2 ++ V2) r2 ∧ r2.length = U2.length + V2.length) := ⟨by rw [hd4, HD3.out.1, hr2]; simp, by rw [hr2]; rw [HZ4.out, List.append_nil]; exact HSU.out.2, by rw [hr2]; exact Stb.refl _, by rw [hr2]; simp⟩
              rw [← hd4] at S3'
              have S4' : Aside _ := S3'.out
              clear S3' hd4 hr2
              go_wp2
              go_end0
              have hr := merge_halves HH.out (u1 := U1) (u2 := U2) (v1 := V1) (v2 := V2) (r1 := r1) (r2 := r2) (by rw [← HP.out.1]; exact HU.out) (by rw [← HP.out.2.1]; exact HV.out) H12.out H21.out HD3.out.2.1 HD4.out.2.1 HD3.out.2.2.1 HD4.out.2.2.1
              refine ⟨rfl, d4, r1 ++ r2, by rw [HD4.out.1]; simp, hr.1, by rw [HP.out.1, HP.out.2.1]; exact hr.2, ?_, S4'.out⟩
              have h1 := HD3.out.2.2.2
              have h2 := HD4.out.2.2.2
              have h3 := HP.out.1
              have h4 := HP.out.2.1
              rw [h3, h4]; simp; omega
          · have HZ3 : Hid (V1 = []) := List.eq_nil_of_length_eq_zero (by have := HP.out.2.2; omega)
            by_cases t3 : md + m < b + s
            · have q1p : (s : Int) < (m : Int) := by omega
              have q1 : decide ((s : Int) < (m : Int)) = true := by simp only [decide_eq_true_eq]; exact q1p
              have q2p : ¬ (m : Int) < (md : Int) + (m : Int) - (s : Int) := by omega
              have q2 : decide ((m : Int) < (md : Int) + (m : Int) - (s : Int)) = false := by simp only [decide_eq_false_iff_not]; exact q2p
              have q3p : (a : Int) < (s : Int) := by omega
              have q3 : decide ((a : Int) < (s : Int)) = true := by simp only [decide_eq_true_eq]; exact q3p
              have q4p : ¬ (s : Int) < (md : Int) := by omega
              have q4 : decide ((s : Int) < (md : Int)) = false := by simp only [decide_eq_false_iff_not]; exact q4p
              have q5p : (md : Int) < (md : Int) + (m : Int) - (s : Int) := by omega
              have q5 : decide ((md : Int) < (md : Int) + (m : Int) - (s : Int)) = true := by simp only [decide_eq_true_eq]; exact q5p
              have q6p : (md : Int) + (m : Int) - (s : Int) < (b : Int) := by omega
              have q6 : decide ((md : Int) + (m : Int) - (s : Int) < (b : Int)) = true := by simp only [decide_eq_true_eq]; exact q6p
              obtain ⟨d2, w2, hd2, hw2⟩ : ∃ d2 w2, d2 = d ∧ w2 = wr := ⟨d, wr, rfl, rfl⟩
              have HD2 : Hid (d2.toList = A ++ U1 ++ V1 ++ (U2 ++ V2 ++ C)) := by
                show _ = _
                rw [hd2, HD.out, HP.out.1, HP.out.2.1, HZ3.out]
                simp
              have S2' : Aside (SWK oC k w0 blk off d2 w2) := by rw [hd2, hw2]; exact S1
              clear S1 hd2
              subst hw2
              have hs2 : d2.size = d.size := by have h1 := size_of HD2.out; have h2 := size_of HD.out; have h3 := HP.out.1; have h4 := HP.out.2.1; rw [h3, h4] at h2; simp at h1 h2; omega
              obtain ⟨d3, r1, hd3, hr1⟩ : ∃ d3 r1, d3 = d2 ∧ r1 = U1 ++ V1 := ⟨d2, _, rfl, rfl⟩
              have HD3 : Hid (d3.toList = (A ++ r1) ++ U2 ++ V2 ++ C ∧ Srt (ltOf cf) r1 ∧ Stb (ltOf cf) (U1 ++ V1) r1 ∧ r1.length = U1.length + V1.length) := ⟨by rw [hd3, HD2.out, hr1]; simp, by rw [hr1]; rw [HZ3.out, List.append_nil]; exact HSU.out.1, by rw [hr1]; exact Stb.refl _, by rw [hr1]; simp⟩
              rw [← hd3] at S2'
              have S3' : Aside _ := S2'.out
              clear S2' hd3 hr1
              have hs3 : d3.size = d.size := by have h1 := size_of HD3.out.1; have h2 := size_of HD2.out; have h3 := HD3.out.2.2.2; simp at h1 h2; omega
              have HL : Hid _ := IH (md : Int) ((md : Int) + (m : Int) - (s : Int)) (b : Int) (d.size : Int) d3 _ (A ++ r1) U2 V2 C (by have h3 := HP.out.1; have h4 := HP.out.2.1; have h5 := HN.out; have := HP.out.2.2; rw [h3, h4] at h5; simp at h5; omega) (by omega) (by omega) S3'.out HD3.out.1 (by have := HP.out.2.2; have := HA.out; have := HD3.out.2.2.2; simp; omega) (by have := HP.out.2.2; have := HA.out; have := HD3.out.2.2.2; simp; omega) (by have := HP.out.2.2; have := HA.out; have := HD3.out.2.2.2; simp; omega) (by have := HP.out.2.2; omega) (by have := HP.out.2.2; omega) HSU.out.2 HSV.out.2 (by omega)
              rw [Int.toNat_natCast] at HL
              clear S3'
              go_wp2_with fail
              refine Calls.mono HL.out ?_
              rintro e w4 ⟨rfl, d4, r2, hd4, hr4, hr5, hr6, S4⟩
              have HD4 : Hid (d4.toList = A ++ r1 ++ r2 ++ C ∧ Srt (ltOf cf) r2 ∧ Stb (ltOf cf) (U2 ++ V2) r2 ∧ r2.length = U2.length + V2.length) := ⟨hd4, hr4, hr5, hr6⟩
              have S4' : Aside _ := S4
              clear S4 hd4 hr4 hr5 hr6 HL
              go_wp2
              go_end0
              have hr := merge_halves HH.out (u1 := U1) (u2 := U2) (v1 := V1) (v2 := V2) (r1 := r1) (r2 := r2) (by rw [← HP.out.1]; exact HU.out) (by rw [← HP.out.2.1]; exact HV.out) H12.out H21.out HD3.out.2.1 HD4.out.2.1 HD3.out.2.2.1 HD4.out.2.2.1
              refine ⟨rfl, d4, r1 ++ r2, by rw [HD4.out.1]; simp, hr.1, by rw [HP.out.1, HP.out.2.1]; exact hr.2, ?_, S4'.out⟩
              have h1 := HD3.out.2.2.2
              have h2 := HD4.out.2.2.2
              have h3 := HP.out.1
              have h4 := HP.out.2.1
              rw [h3, h4]; simp; omega
            · have HZ4 : Hid (V2 = []) := List.eq_nil_of_length_eq_zero (by have := HP.out.2.2; omega)
              exfalso; omega
        · have HZ2 : Hid (U2 = []) := List.eq_nil_of_length_eq_zero (by have := HP.out.2.2; omega)
          by_cases t2 : s < md
          · by_cases t3 : md + m < b + s
            · have q1p : ¬ (s : Int) < (m : Int) := by omega
              have q1 : decide ((s : Int) < (m : Int)) = false := by simp only [decide_eq_false_iff_not]; exact q1p
              have q2p : (m : Int) < (md : Int) + (m : Int) - (s : Int) := by omega
              have q2 : decide ((m : Int) < (md : Int) + (m : Int) - (s : Int)) = true := by simp only [decide_eq_true_eq]; exact q2p
              have q3p : (a : Int) < (s : Int) := by omega
              have q3 : decide ((a : Int) < (s : Int)) = true := by simp only [decide_eq_true_eq]; exact q3p
              have q4p : (s : Int) < (md : Int) := by omega
              have q4 : decide ((s : Int) < (md : Int)) = true := by simp only [decide_eq_true_eq]; exact q4p
              have q5p : ¬ (md : Int) < (md : Int) + (m : Int) - (s : Int) := by omega
              have q5 : decide ((md : Int) < (md : Int) + (m : Int) - (s : Int)) = false := by simp only [decide_eq_false_iff_not]; exact q5p
              have q6p : (md : Int) + (m : Int) - (s : Int) < (b : Int) := by omega
              have q6 : decide ((md : Int) + (m : Int) - (s : Int) < (b : Int)) = true := by simp only [decide_eq_true_eq]; exact q6p
              obtain ⟨d2, w2, hd2, hw2⟩ : ∃ d2 w2, d2 = d ∧ w2 = wr := ⟨d, wr, rfl, rfl⟩
              have HD2 : Hid (d2.toList = A ++ U1 ++ V1 ++ (U2 ++ V2 ++ C)) := by
                show _ = _
                rw [hd2, HD.out, HP.out.1, HP.out.2.1, HZ2.out]
                simp
              have S2' : Aside (SWK oC k w0 blk off d2 w2) := by rw [hd2, hw2]; exact S1
              clear S1 hd2
              subst hw2
              have hs2 : d2.size = d.size := by have h1 := size_of HD2.out; have h2 := size_of HD.out; have h3 := HP.out.1; have h4 := HP.out.2.1; rw [h3, h4] at h2; simp at h1 h2; omega
              have HL : Hid _ := IH (a : Int) (s : Int) (md : Int) (d.size : Int) d2 _ A U1 V1 (U2 ++ V2 ++ C) (by have h3 := HP.out.1; have h4 := HP.out.2.1; have h5 := HN.out; have := HP.out.2.2; rw [h3, h4] at h5; simp at h5; omega) (by omega) (by omega) S2'.out (by rw [HD2.out]) (by have := HA.out; omega) (by have := HP.out.2.2; have := HA.out; omega) (by have := HP.out.2.2; have := HA.out; omega) (by have := HP.out.2.2; omega) (by have := HP.out.2.2; omega) HSU.out.1 HSV.out.1 (by omega)
              rw [Int.toNat_natCast] at HL
              clear S2'
              go_wp2_with fail
              refine Calls.mono HL.out ?_
              rintro e w3 ⟨rfl, d3, r1, hd3, hr1, hr2, hr3, S3⟩
              have HD3 : Hid (d3.toList = (A ++ r1) ++ U2 ++ V2 ++ C ∧ Srt (ltOf cf) r1 ∧ Stb (ltOf cf) (U1 ++ V1) r1 ∧ r1.length = U1.length + V1.length) := ⟨by rw [hd3]; simp, hr1, hr2, hr3⟩
              have S3' : Aside _ := S3
              clear S3 hd3 hr1 hr2 hr3 HL
              have hs3 : d3.size = d.size := by have h1 := size_of HD3.out.1; have h2 := size_of HD2.out; have h3 := HD3.out.2.2.2; simp at h1 h2; omega
              obtain ⟨d4, r2, hd4, hr2⟩ : ∃ d4 r2, d4 = d3 ∧ r2 = U2 ++ V2 := ⟨d3, _, rfl, rfl⟩
              have HD4 : Hid (d4.toList = A ++ r1 ++ r2 ++ C ∧ Srt (ltOf cf) r2 ∧ Stb (ltOf cf) (U2 ++ V2) r2 ∧ r2.length = U2.length + V2.length) := ⟨by rw [hd4, HD3.out.1, hr2]; simp, by rw [hr2]; rw [HZ2.out]; exact HSV.out.2, by rw [hr2]; exact Stb.refl _, by rw [hr2]; simp⟩
              rw [← hd4] at S3'
              have S4' : Aside _ := S3'.out
              clear S3' hd4 hr2
              go_wp2
              go_end0
              have hr := merge_halves HH.out (u1 := U1) (u2 := U2) (v1 := V1) (v2 := V2) (r1 := r1) (r2 := r2) (by rw [← HP.out.1]; exact HU.out) (by rw [← HP.out.2.1]; exact HV.out) H12.out H21.out HD3.out.2.1 HD4.out.2.1 HD3.out.2.2.1 HD4.out.2.2.1
              refine ⟨rfl, d4, r1 ++ r2, by rw [HD4.out.1]; simp, hr.1, by rw [HP.out.1, HP.out.2.1]; exact hr.2, ?_, S4'.out⟩
              have h1 := HD3.out.2.2.2
              have h2 := HD4.out.2.2.2
              have h3 := HP.out.1
              have h4 := HP.out.2.1
              rw [h3, h4]; simp; omega
            · have HZ4 : Hid (V2 = []) := List.eq_nil_of_length_eq_zero (by have := HP.out.2.2; omega)
              exfalso; omega
          · have HZ3 : Hid (V1 = []) := List.eq_nil_of_length_eq_zero (by have := HP.out.2.2; omega)
            by_cases t3 : md + m < b + s
            · have q1p : ¬ (s : Int) < (m : Int) := by omega
              have q1 : decide ((s : Int) < (m : Int)) = false := by simp only [decide_eq_false_iff_not]; exact q1p
              have q2p : ¬ (m : Int) < (md : Int) + (m : Int) - (s : Int) := by omega
              have q2 : decide ((m : Int) < (md : Int) + (m : Int) - (s : Int)) = false := by simp only [decide_eq_false_iff_not]; exact q2p
              have q3p : (a : Int) < (s : Int) := by omega
              have q3 : decide ((a : Int) < (s : Int)) = true := by simp only [decide_eq_true_eq]; exact q3p
              have q4p : ¬ (s : Int) < (md : Int) := by omega
              have q4 : decide ((s : Int) < (md : Int)) = false := by simp only [decide_eq_false_iff_not]; exact q4p
              have q5p : ¬ (md : Int) < (md : Int) + (m : Int) - (s : Int) := by omega
              have q5 : decide ((md : Int) < (md : Int) + (m : Int) - (s : Int)) = false := by simp only [decide_eq_false_iff_not]; exact q5p
              have q6p : (md : Int) + (m : Int) - (s : Int) < (b : Int) := by omega
              have q6 : decide ((md : Int) + (m : Int) - (s : Int) < (b : Int)) = true := by simp only [decide_eq_true_eq]; exact q6p
              obtain ⟨d2, w2, hd2, hw2⟩ : ∃ d2 w2, d2 = d ∧ w2 = wr := ⟨d, wr, rfl, rfl⟩
              have HD2 : Hid (d2.toList = A ++ U1 ++ V1 ++ (U2 ++ V2 ++ C)) := by
                show _ = _
                rw [hd2, HD.out, HP.out.1, HP.out.2.1, HZ2.out]
                simp
              have S2' : Aside (SWK oC k w0 blk off d2 w2) := by rw [hd2, hw2]; exact S1
              clear S1 hd2
              subst hw2
              have hs2 : d2.size = d.size := by have h1 := size_of HD2.out; have h2 := size_of HD.out; have h3 := HP.out.1; have h4 := HP.out.2.1; rw [h3, h4] at h2; simp at h1 h2; omega
              obtain ⟨d3, r1, hd3, hr1⟩ : ∃ d3 r1, d3 = d2 ∧ r1 = U1 ++ V1 := ⟨d2, _, rfl, rfl⟩
              have HD3 : Hid (d3.toList = (A ++ r1) ++ U2 ++ V2 ++ C ∧ Srt (ltOf cf) r1 ∧ Stb (ltOf cf) (U1 ++ V1) r1 ∧ r1.length = U1.length + V1.length) := ⟨by rw [hd3, HD2.out, hr1]; simp, by rw [hr1]; rw [HZ3.out, List.append_nil]; exact HSU.out.1, by rw [hr1]; exact Stb.refl _, by rw [hr1]; simp⟩
              rw [← hd3] at S2'
              have S3' : Aside _ := S2'.out
              clear S2' hd3 hr1
              have hs3 : d3.size = d.size := by have h1 := size_of HD3.out.1; have h2 := size_of HD2.out; have h3 := HD3.out.2.2.2; simp at h1 h2; omega
              obtain ⟨d4, r2, hd4, hr2⟩ : ∃ d4 r2, d4 = d3 ∧ r2 = U2 ++ V2 := ⟨d3, _, rfl, rfl⟩
              have HD4 : Hid (d4.toList = A ++ r1 ++ r2 ++ C ∧ Srt (ltOf cf) r2 ∧ Stb (ltOf cf) (U2 ++ V2) r2 ∧ r2.length = U2.length + V2.length) := ⟨by rw [hd4, HD3.out.1, hr2]; simp, by rw [hr2]; rw [HZ2.out]; exact HSV.out.2, by rw [hr2]; exact Stb.refl _, by rw [hr2]; simp⟩
              rw [← hd4] at S3'
              have S4' : Aside _ := S3'.out
              clear S3' hd4 hr2
              go_wp2
              go_end0
              have hr := merge_halves HH.out (u1 := U1) (u2 := U2) (v1 := V1) (v2 := V2) (r1 := r1) (r2 := r2) (by rw [← HP.out.1]; exact HU.out) (by rw [← HP.out.2.1]; exact HV.out) H12.out H21.out HD3.out.2.1 HD4.out.2.1 HD3.out.2.2.1 HD4.out.2.2.1
              refine ⟨rfl, d4, r1 ++ r2, by rw [HD4.out.1]; simp, hr.1, by rw [HP.out.1, HP.out.2.1]; exact hr.2, ?_, S4'.out⟩
              have h1 := HD3.out.2.2.2
              have h2 := HD4.out.2.2.2
              have h3 := HP.out.1
              have h4 := HP.out.2.1
              rw [h3, h4]; simp; omega
            · have HZ4 : Hid (V2 = []) := List.eq_nil_of_length_eq_zero (by have := HP.out.2.2; omega)
              exfalso; omega
      · have HZ1 : Hid (U1 = []) := List.eq_nil_of_length_eq_zero (by have := HP.out.2.2; omega)
        by_cases t1 : s < m
        · by_cases t2 : s < md
          · by_cases t3 : md + m < b + s
            · have q1p : (s : Int) < (m : Int) := by omega
              have q1 : decide ((s : Int) < (m : Int)) = true := by simp only [decide_eq_true_eq]; exact q1p
              have q2p : (m : Int) < (md : Int) + (m : Int) - (s : Int) := by omega
              have q2 : decide ((m : Int) < (md : Int) + (m : Int) - (s : Int)) = true := by simp only [decide_eq_true_eq]; exact q2p
              have q3p : ¬ (a : Int) < (s : Int) := by omega
              have q3 : decide ((a : Int) < (s : Int)) = false := by simp only [decide_eq_false_iff_not]; exact q3p
              have q4p : (s : Int) < (md : Int) := by omega
              have q4 : decide ((s : Int) < (md : Int)) = true := by simp only [decide_eq_true_eq]; exact q4p
              have q5p : (md : Int) < (md : Int) + (m : Int) - (s : Int) := by omega
              have q5 : decide ((md : Int) < (md : Int) + (m : Int) - (s : Int)) = true := by simp only [decide_eq_true_eq]; exact q5p
              have q6p : (md : Int) + (m : Int) - (s : Int) < (b : Int) := by omega
              have q6 : decide ((md : Int) + (m : Int) - (s : Int) < (b : Int)) = true := by simp only [decide_eq_true_eq]; exact q6p
              have HR : Hid _ := rotate_int k aE zE (.func (.func g) #[] cb) blk off cap (s : Int) (m : Int) ((md : Int) + (m : Int) - (s : Int)) (d.size : Int) d0 d w0 wr R rfl hs S1.out (A ++ U1) U2 V1 (V2 ++ C) (by rw [HD.out, HP.out.1, HP.out.2.1]; simp) (by have := HP.out.2.2; have := HA.out; simp; omega) (by have := HP.out.2.2; have := HA.out; simp; omega) (by have := HP.out.2.2; have := HA.out; simp; omega) (by have := HP.out.2.2; have := HA.out; omega) (by have := HP.out.2.2; have := HA.out; omega) hsz
              rw [Int.toNat_natCast] at HR
              clear S1
              go_wp2_with fail
              refine Calls.mono HR.out ?_
              rintro e w2 ⟨rfl, d2, hd2, S2⟩
              have HD2 : Hid (d2.toList = A ++ U1 ++ V1 ++ (U2 ++ V2 ++ C)) := by show _ = _; rw [hd2]; simp
              have S2' : Aside _ := S2
              clear S2 hd2 HR
              have hs2 : d2.size = d.size := by have h1 := size_of HD2.out; have h2 := size_of HD.out; have h3 := HP.out.1; have h4 := HP.out.2.1; rw [h3, h4] at h2; simp at h1 h2; omega
              obtain ⟨d3, r1, hd3, hr1⟩ : ∃ d3 r1, d3 = d2 ∧ r1 = U1 ++ V1 := ⟨d2, _, rfl, rfl⟩
              have HD3 : Hid (d3.toList = (A ++ r1) ++ U2 ++ V2 ++ C ∧ Srt (ltOf cf) r1 ∧ Stb (ltOf cf) (U1 ++ V1) r1 ∧ r1.length = U1.length + V1.length) := ⟨by rw [hd3, HD2.out, hr1]; simp, by rw [hr1]; rw [HZ1.out]; exact HSV.out.1, by rw [hr1]; exact Stb.refl _, by rw [hr1]; simp⟩
              rw [← hd3] at S2'
              have S3' : Aside _ := S2'.out
              clear S2' hd3 hr1
              have hs3 : d3.size = d.size := by have h1 := size_of HD3.out.1; have h2 := size_of HD2.out; have h3 := HD3.out.2.2.2; simp at h1 h2; omega
              have HL : Hid _ := IH (md : Int) ((md : Int) + (m : Int) - (s : Int)) (b : Int) (d.size : Int) d3 _ (A ++ r1) U2 V2 C (by have h3 := HP.out.1; have h4 := HP.out.2.1; have h5 := HN.out; have := HP.out.2.2; rw [h3, h4] at h5; simp at h5; omega) (by omega) (by omega) S3'.out HD3.out.1 (by have := HP.out.2.2; have := HA.out; have := HD3.out.2.2.2; simp; omega) (by have := HP.out.2.2; have := HA.out; have := HD3.out.2.2.2; simp; omega) (by have := HP.out.2.2; have := HA.out; have := HD3.out.2.2.2; simp; omega) (by have := HP.out.2.2; omega) (by have := HP.out.2.2; omega) HSU.out.2 HSV.out.2 (by omega)
              rw [Int.toNat_natCast] at HL
              clear S3'
              go_wp2_with fail
              refine Calls.mono HL.out ?_
              rintro e w4 ⟨rfl, d4, r2, hd4, hr4, hr5, hr6, S4⟩
              have HD4 : Hid (d4.toList = A ++ r1 ++ r2 ++ C ∧ Srt (ltOf cf) r2 ∧ Stb (ltOf cf) (U2 ++ V2) r2 ∧ r2.length = U2.length + V2.length) := ⟨hd4, hr4, hr5, hr6⟩
              have S4' : Aside _ := S4
              clear S4 hd4 hr4 hr5 hr6 HL
              go_wp2
              go_end0
              have hr := merge_halves HH.out (u1 := U1) (u2 := U2) (v1 := V1) (v2 := V2) (r1 := r1) (r2 := r2) (by rw [← HP.out.1]; exact HU.out) (by rw [← HP.out.2.1]; exact HV.out) H12.out H21.out HD3.out.2.1 HD4.out.2.1 HD3.out.2.2.1 HD4.out.2.2.1
              refine ⟨rfl, d4, r1 ++ r2, by rw [HD4.out.1]; simp, hr.1, by rw [HP.out.1, HP.out.2.1]; exact hr.2, ?_, S4'.out⟩
              have h1 := HD3.out.2.2.2
              have h2 := HD4.out.2.2.2
              have h3 := HP.out.1
              have h4 := HP.out.2.1
              rw [h3, h4]; simp; omega
            · have HZ4 : Hid (V2 = []) := List.eq_nil_of_length_eq_zero (by have := HP.out.2.2; omega)
              have q1p : (s : Int) < (m : Int) := by omega
              have q1 : decide ((s : Int) < (m : Int)) = true := by simp only [decide_eq_true_eq]; exact q1p
              have q2p : (m : Int) < (md : Int) + (m : Int) - (s : Int) := by omega
              have q2 : decide ((m : Int) < (md : Int) + (m : Int) - (s : Int)) = true := by simp only [decide_eq_true_eq]; exact q2p
              have q3p : ¬ (a : Int) < (s : Int) := by omega
              have q3 : decide ((a : Int) < (s : Int)) = false := by simp only [decide_eq_false_iff_not]; exact q3p
              have q4p : (s : Int) < (md : Int) := by omega
              have q4 : decide ((s : Int) < (md : Int)) = true := by simp only [decide_eq_true_eq]; exact q4p
              have q5p : (md : Int) < (md : Int) + (m : Int) - (s : Int) := by omega
              have q5 : decide ((md : Int) < (md : Int) + (m : Int) - (s : Int)) = true := by simp only [decide_eq_true_eq]; exact q5p
              have q6p : ¬ (md : Int) + (m : Int) - (s : Int) < (b : Int) := by omega
              have q6 : decide ((md : Int) + (m : Int) - (s : Int) < (b : Int)) = false := by simp only [decide_eq_false_iff_not]; exact q6p
              have HR : Hid _ := rotate_int k aE zE (.func (.func g) #[] cb) blk off cap (s : Int) (m : Int) ((md : Int) + (m : Int) - (s : Int)) (d.size : Int) d0 d w0 wr R rfl hs S1.out (A ++ U1) U2 V1 (V2 ++ C) (by rw [HD.out, HP.out.1, HP.out.2.1]; simp) (by have := HP.out.2.2; have := HA.out; simp; omega) (by have := HP.out.2.2; have := HA.out; simp; omega) (by have := HP.out.2.2; have := HA.out; simp; omega) (by have := HP.out.2.2; have := HA.out; omega) (by have := HP.out.2.2; have := HA.out; omega) hsz
              rw [Int.toNat_natCast] at HR
              clear S1
              go_wp2_with fail
              refine Calls.mono HR.out ?_
              rintro e w2 ⟨rfl, d2, hd2, S2⟩
              have HD2 : Hid (d2.toList = A ++ U1 ++ V1 ++ (U2 ++ V2 ++ C)) := by show _ = _; rw [hd2]; simp
              have S2' : Aside _ := S2
              clear S2 hd2 HR
              have hs2 : d2.size = d.size := by have h1 := size_of HD2.out; have h2 := size_of HD.out; have h3 := HP.out.1; have h4 := HP.out.2.1; rw [h3, h4] at h2; simp at h1 h2; omega
              obtain ⟨d3, r1, hd3, hr1⟩ : ∃ d3 r1, d3 = d2 ∧ r1 = U1 ++ V1 := ⟨d2, _, rfl, rfl⟩
              have HD3 : Hid (d3.toList = (A ++ r1) ++ U2 ++ V2 ++ C ∧ Srt (ltOf cf) r1 ∧ Stb (ltOf cf) (U1 ++ V1) r1 ∧ r1.length = U1.length + V1.length) := ⟨by rw [hd3, HD2.out, hr1]; simp, by rw [hr1]; rw [HZ1.out]; exact HSV.out.1, by rw [hr1]; exact Stb.refl _, by rw [hr1]; simp⟩
              rw [← hd3] at S2'
              have S3' : Aside _ := S2'.out
              clear S2' hd3 hr1
              have hs3 : d3.size = d.size := by have h1 := size_of HD3.out.1; have h2 := size_of HD2.out; have h3 := HD3.out.2.2.2; simp at h1 h2; omega
              obtain ⟨d4, r2, hd4, hr2⟩ : ∃ d4 r2, d4 = d3 ∧ r2 = U2 ++ V2 := ⟨d3, _, rfl, rfl⟩
              have HD4 : Hid (d4.toList = A ++ r1 ++ r2 ++ C ∧ Srt (ltOf cf) r2 ∧ Stb (ltOf cf) (U2 ++ V2) r2 ∧ r2.length = U2.length + V2.length) := ⟨by rw [hd4, HD3.out.1, hr2]; simp, by rw [hr2]; rw [HZ4.out, List.append_nil]; exact HSU.out.2, by rw [hr2]; exact Stb.refl _, by rw [hr2]; simp⟩
              rw [← hd4] at S3'
              have S4' : Aside _ := S3'.out
              clear S3' hd4 hr2
              go_wp2
              go_end0
              have hr := merge_halves HH.out (u1 := U1) (u2 := U2) (v1 := V1) (v2 := V2) (r1 := r1) (r2 := r2) (by rw [← HP.out.1]; exact HU.out) (by rw [← HP.out.2.1]; exact HV.out) H12.out H21.out HD3.out.2.1 HD4.out.2.1 HD3.out.2.2.1 HD4.out.2.2.1
              refine ⟨rfl, d4, r1 ++ r2, by rw [HD4.out.1]; simp, hr.1, by rw [HP.out.1, HP.out.2.1]; exact hr.2, ?_, S4'.out⟩
              have h1 := HD3.out.2.2.2
              have h2 := HD4.out.2.2.2
              have h3 := HP.out.1
              have h4 := HP.out.2.1
              rw [h3, h4]; simp; omega
          · have HZ3 : Hid (V1 = []) := List.eq_nil_of_length_eq_zero (by have := HP.out.2.2; omega)
            by_cases t3 : md + m < b + s
            · exfalso; omega
            · have HZ4 : Hid (V2 = []) := List.eq_nil_of_length_eq_zero (by have := HP.out.2.2; omega)
              exfalso; omega
        · have HZ2 : Hid (U2 = []) := List.eq_nil_of_length_eq_zero (by have := HP.out.2.2; omega)
          by_cases t2 : s < md
          · by_cases t3 : md + m < b + s
            · exfalso; omega
            · have HZ4 : Hid (V2 = []) := List.eq_nil_of_length_eq_zero (by have := HP.out.2.2; omega)
              exfalso; omega
          · have HZ3 : Hid (V1 = []) := List.eq_nil_of_length_eq_zero (by have := HP.out.2.2; omega)
            by_cases t3 : md + m < b + s
            · exfalso; omega
            · have HZ4 : Hid (V2 = []) := List.eq_nil_of_length_eq_zero (by have := HP.out.2.2; omega)
              exfalso; omega
end Go.Proofs.YtpekfpfhonechaaGreat.Cal
