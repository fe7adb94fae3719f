/- The library's stable sort at orders: ranges swapped, blocks rotated. -/
import Derived.Test.YtpekfpfhonechaaGreatWa14
import Derived.Test.YtpekfpfhonechaaGreatRows
import Derived.Shelf.SlSortCmp.KitK
import Derived.Sort.WalkB2
import Derived.Deep.LoopGhost
namespace Go.Proofs.YtpekfpfhonechaaGreat.Cal
open Go.Shelf Go.RowKit Go.Lib Go.Sort
set_option linter.unusedSimpArgs false
set_option linter.unusedVariables false

set_option maxHeartbeats 4000000 in
set_option maxRecDepth 1000000 in
theorem swapRange_calls (k : Nat) (aE : ∀ w, (isAgg 51).run Tryz.prog w = .ok true w) (zE : ∀ w, (Go.sizeOf 51).run Tryz.prog w = .ok k w) (fv : Value) (blk off cap a b n : Nat) (d0 d : Array Od) (w0 w : World) (R : RowK oC k w0 blk off d0) (hs : d0.size = d.size) (S : SWK oC k w0 blk off d w) (A U M V C : List Od)
    (hd : d.toList = A ++ U ++ M ++ V ++ C) (hl : U.length = V.length) (ha : a = A.length) (hb : b = A.length + U.length + M.length) (hn : n = U.length) (hsz : d.size < 1000000) :
    Calls Tryz.prog 159 #[.slice (some ⟨blk, off, none⟩) d.size cap, .int .i64 a, .int .i64 b, .int .i64 n, fv] w fun e w' => e = .returned (.tuple #[]) ∧ ∃ d' : Array Od, d'.toList = A ++ V ++ M ++ U ++ C ∧ SWK oC k w0 blk off d' w' := by
  have mixed : Tryz.prog.follows .mixedOrders = true := by kernel_rfl
  have hsd := size_of hd
  simp only [List.length_append] at hsd
  have S0 : Aside (SWK oC k w0 blk off d w) := S
  have HD : Hid _ := hd
  have HA : Hid _ := ha
  have HB : Hid _ := hb
  have HN : Hid _ := hn
  have HL : Hid _ := hl
  have hbn : b + n ≤ d.size := by omega
  have hab : a + n ≤ b := by omega
  have HSD : Hid _ := hsd
  clear S hd ha hb hn hl hsd
  go_enter Tryz.func159, Tryz.ntmps159
  go_wp2
  go_loopg [10] n (fun kx s wr => ∃ (i : Nat) (dk : Array Od) (U1 U2 V1 V2 : List Od), s = .int .i64 i ∧ i ≤ n ∧ n - i ≤ kx ∧ Hid (U = U1 ++ U2 ∧ V = V1 ++ V2 ∧ U1.length = i ∧ V1.length = i ∧ dk.toList = A ++ V1 ++ U2 ++ M ++ U1 ++ V2 ++ C) ∧ Aside (SWK oC k w0 blk off dk wr))
  case atStart => exact ⟨0, d, [], U, [], V, rfl, by omega, by omega, ⟨rfl, rfl, rfl, rfl, by simpa using HD.out⟩, S0⟩
  case round =>
    clear S0
    obtain ⟨i, dk, U1, U2, V1, V2, rfl, hin, hkx, HI, S1⟩ := hrel
    by_cases hlt : i < n
    · have hltz : (i : Int) < (n : Int) := by omega
      obtain ⟨x, U3, rfl⟩ : ∃ x U3, U2 = x :: U3 := by
        cases U2 with
        | nil => exfalso; have h1 := HI.out.1; have h2 := HI.out.2.2.1; have h3 := HN.out; rw [h1] at h3; simp at h3; omega
        | cons x t => exact ⟨x, t, rfl⟩
      obtain ⟨y, V3, rfl⟩ : ∃ y V3, V2 = y :: V3 := by
        cases V2 with
        | nil => exfalso; have h1 := HI.out.2.1; have h2 := HI.out.2.2.2.1; have h3 := HN.out; have h4 := HL.out; rw [h1] at h4; simp at h4; omega
        | cons x t => exact ⟨x, t, rfl⟩
      have HX : Hid (dk.toList = (A ++ V1) ++ x :: ((U3 ++ M ++ U1) ++ y :: (V3 ++ C))) := by show _ = _; rw [HI.out.2.2.2.2]; simp
      have HJ : Hid (a + i = (A ++ V1).length ∧ b + i = (A ++ V1).length + 1 + (U3 ++ M ++ U1).length) := by
        have h1 := HI.out.1; have h2 := HI.out.2.2.1; have h3 := HI.out.2.2.2.1; have h4 := HA.out; have h5 := HB.out
        rw [h1] at h5
        simp only [List.length_append, List.length_cons] at h5 ⊢
        exact ⟨by omega, by omega⟩
      have hds : dk.size = d.size := by
        have h1 := size_of HX.out; have h2 := size_of HD.out; have h3 := HI.out.1; have h4 := HI.out.2.1
        rw [h3, h4] at h2
        simp only [List.length_append, List.length_cons] at h1 h2
        omega
      have e1 : dk[a + i]! = x := get_mid HX.out HJ.out.1
      have e2 : dk[b + i]! = y := get_mid (A := A ++ V1 ++ x :: (U3 ++ M ++ U1)) (C := V3 ++ C) (by rw [HX.out]; simp) (by rw [HJ.out.2]; simp; omega)
      have HE1 : Hid _ := e1
      have HE2 : Hid _ := e2
      clear e1 e2
      go_wp2_with fail
      have ea44 : ((a : Int) + (i : Int)).toNat = a + i := by omega
      have pa44 : (0 : Int) ≤ (a : Int) + (i : Int) := by omega
      have ba44 : (a : Int) + (i : Int) < (d.size : Int) := by omega
      have ra44 : IntKind.i64.wrap ((a : Int) + (i : Int)) = (a : Int) + (i : Int) := by rw [IntKind.wrap_i64]; omega
      have ec44 : ((b : Int) + (i : Int)).toNat = b + i := by omega
      have pc44 : (0 : Int) ≤ (b : Int) + (i : Int) := by omega
      have bc44 : (b : Int) + (i : Int) < (d.size : Int) := by omega
      have rc44 : IntKind.i64.wrap ((b : Int) + (i : Int)) = (b : Int) + (i : Int) := by rw [IntKind.wrap_i64]; omega
      have S2 : Aside (SWK oC k w0 blk off (swp dk (a + i) (b + i)) ((wr.drew.setCells blk (off + (a + i) * k) (oC dk[b + i]!)).setCells blk (off + (b + i) * k) (oC dk[a + i]!))) := S1.out.swapped R (a + i) (b + i) (by omega) (by omega)
      have l44a := S1.out.ld1 R (by omega) Tryz.prog (a + i) (by omega)
      have l44b := S1.out.ld1 R (by omega) Tryz.prog (b + i) (by omega)
      have s44a := S1.out.st1 R (by omega) Tryz.prog (a + i) (by omega) dk[b + i]!
      have s44b := S1.out.st2 R (by omega) Tryz.prog (a + i) (b + i) (by omega) (by omega) dk[b + i]! dk[a + i]!
      have n44a : (oC dk[a + i]!).length = k := R.hk _
      have n44b : (oC dk[b + i]!).length = k := R.hk _
      generalize oC dk[a + i]! = cI44 at S2 l44a s44b n44a
      generalize oC dk[b + i]! = cJ44 at S2 l44b s44a s44b n44b
      clear S1
      go_wp2_with fail
      go_big_region_o
      clear l44a l44b s44a s44b
      generalize (wr.drew.setCells blk (off + (a + i) * k) cJ44).setCells blk (off + (b + i) * k) cI44 = w2 at S2 ⊢
      go_wp2
      go_roundg (n - (i + 1))
      case measure => omega
      case rel =>
        refine ⟨i + 1, swp dk (a + i) (b + i), U1 ++ [x], U3, V1 ++ [y], V3, by go_num, by omega, by omega, ⟨?_, ?_, ?_, ?_, ?_⟩, S2⟩
        · rw [HI.out.1]; simp
        · rw [HI.out.2.1]; simp
        · simp [HI.out.2.2.1]
        · simp [HI.out.2.2.2.1]
        · rw [swp_mid HX.out HJ.out.1 HJ.out.2]; simp
    · have hnl : ¬ (i : Int) < (n : Int) := by omega
      go_wp2
      go_end0
      obtain ⟨h1, h2, h3, h4, h5⟩ := HI.out
      have hz : U2 = [] := by
        have := HN.out; rw [h1] at this; simp at this
        exact List.eq_nil_of_length_eq_zero (by omega)
      have hz2 : V2 = [] := by
        have := HN.out; have k := HL.out; rw [h2] at k; simp at k
        exact List.eq_nil_of_length_eq_zero (by omega)
      subst hz hz2
      refine ⟨rfl, dk, ?_, S1.out⟩
      rw [h5, h1, h2]; simp
theorem swapRange_int (k : Nat) (aE : ∀ w, (isAgg 51).run Tryz.prog w = .ok true w) (zE : ∀ w, (Go.sizeOf 51).run Tryz.prog w = .ok k w) (fv : Value) (blk off cap : Nat) (a b n z : Int) (d0 d : Array Od) (w0 w : World) (R : RowK oC k w0 blk off d0) (hz : z = d.size) (hs : d0.size = d.size) (S : SWK oC k w0 blk off d w) (A U M V C : List Od)
    (hd : d.toList = A ++ U ++ M ++ V ++ C) (hl : U.length = V.length) (ha : a = A.length) (hb : b = A.length + U.length + M.length) (hn : n = U.length) (hsz : d.size < 1000000) :
    Calls Tryz.prog 159 #[.slice (some ⟨blk, off, none⟩) z.toNat cap, .int .i64 a, .int .i64 b, .int .i64 n, fv] w fun e w' => e = .returned (.tuple #[]) ∧ ∃ d' : Array Od, d'.toList = A ++ V ++ M ++ U ++ C ∧ SWK oC k w0 blk off d' w' := by
  have := swapRange_calls k aE zE fv blk off cap A.length (A.length + U.length + M.length) U.length d0 d w0 w R hs S A U M V C hd hl rfl rfl rfl hsz
  rw [ha, hb, hn, hz, Int.toNat_natCast]
  simpa using this

set_option maxHeartbeats 4000000 in
set_option maxRecDepth 1000000 in
theorem rotate_calls (k : Nat) (aE : ∀ w, (isAgg 51).run Tryz.prog w = .ok true w) (zE : ∀ w, (Go.sizeOf 51).run Tryz.prog w = .ok k w) (fv : Value) (blk off cap : Nat) (a m b : Nat) (d0 d : Array Od) (w0 w : World) (R : RowK oC k w0 blk off d0) (hs : d0.size = d.size) (S : SWK oC k w0 blk off d w) (A U V C : List Od)
    (hd : d.toList = A ++ U ++ V ++ C) (ha : a = A.length) (hm : m = A.length + U.length) (hb : b = A.length + U.length + V.length) (hu : 0 < U.length) (hv : 0 < V.length) (hsz : d.size < 1000000) :
    Calls Tryz.prog 158 #[.slice (some ⟨blk, off, none⟩) d.size cap, .int .i64 a, .int .i64 m, .int .i64 b, fv] w fun e w' => e = .returned (.tuple #[]) ∧ ∃ d' : Array Od, d'.toList = A ++ V ++ U ++ C ∧ SWK oC k w0 blk off d' w' := by
  have hsd := size_of hd
  simp only [List.length_append] at hsd
  have S0 : Aside (SWK oC k w0 blk off d w) := S
  have HD : Hid _ := hd
  have HA : Hid (a = A.length ∧ m = A.length + U.length ∧ b = A.length + U.length + V.length ∧ d.size = A.length + U.length + V.length + C.length) := ⟨ha, hm, hb, hsd⟩
  have h1 : a < m := by omega
  have h2 : m < b := by omega
  have h3 : b ≤ d.size := by omega
  clear S hd ha hm hb hsd hu hv
  go_enter Tryz.func158, Tryz.ntmps158
  go_wp2
  go_loopg [10, 11] (b - a) (fun kx s t wr => ∃ (i j : Nat) (dk : Array Od) (P u v Q : List Od), s = .int .i64 i ∧ t = .int .i64 j ∧ 0 < i ∧ 0 < j ∧ i ≤ m ∧ m + j ≤ d.size ∧ i + j ≤ kx ∧ dk.size = d.size ∧ Hid (P.length + i = m ∧ u.length = i ∧ v.length = j ∧ dk.toList = P ++ u ++ v ++ Q ∧ P ++ v ++ u ++ Q = A ++ V ++ U ++ C) ∧ Aside (SWK oC k w0 blk off dk wr))
  case atStart =>
    obtain ⟨e1, e2, e3, e4⟩ := HA.out
    exact ⟨U.length, V.length, d, A, U, V, C, by congr 1; omega, by congr 1; omega, by omega, by omega, by omega, by omega, by omega, rfl, ⟨by omega, rfl, rfl, HD.out, rfl⟩, S0⟩
  case round =>
    clear S0
    obtain ⟨i, j, dk, P, u, v, Q, rfl, rfl, hi, hj, him, hjm, hkx, hds, HI, S1⟩ := hrel
    rcases Nat.lt_trichotomy i j with hij | hij | hij
    · have c1 : ((i : Int) == (j : Int)) = false := by simp; omega
      have c2 : ¬ (i : Int) = (j : Int) := by omega
      have c3 : ¬ (j : Int) < (i : Int) := by omega
      have c4 : decide ((j : Int) < (i : Int)) = false := decide_eq_false c3
      obtain ⟨v1, v2, hv12, hv1⟩ : ∃ v1 v2, v = v1 ++ v2 ∧ v1.length = j - i := cut2 (by have := HI.out.2.2.1; omega)
      have hl2 : v2.length = i := by have := HI.out.2.2.1; rw [hv12] at this; simp at this; omega
      have HC := fun (a b n z : Int) (h1 : a = P.length) (h2 : b = P.length + u.length + v1.length) (h3 : n = u.length) (h4 : z = dk.size) => swapRange_int k aE zE fv blk off cap a b n z d0 dk w0 wr R h4 (by omega) S1.out P u v1 v2 Q (by rw [HI.out.2.2.2.1, hv12]; simp) (by rw [HI.out.2.1, hl2]) h1 h2 h3 (by omega)
      obtain ⟨e1, e2, e3, e4, e5⟩ := HI.out
      have HE : Hid (((m : Int) - (i : Int) = P.length) ∧ ((m : Int) + (j : Int) - (i : Int) = P.length + u.length + v1.length) ∧ ((i : Int) = u.length) ∧ ((d.size : Int) = dk.size)) := ⟨by omega, by omega, by omega, by omega⟩
      have HC' : Hid _ := HC _ _ _ _ HE.out.1 HE.out.2.1 HE.out.2.2.1 HE.out.2.2.2
      have HV : Hid (v = v1 ++ v2 ∧ v1.length = j - i ∧ v2.length = i) := ⟨hv12, hv1, hl2⟩
      rw [Int.toNat_natCast] at HC'
      clear HC e1 e2 e3 e4 e5 hv12 hv1 hl2 S1
      go_wp2_with fail
      refine Calls.mono HC'.out ?_
      rintro e w2 ⟨rfl, d2, hd2, S2⟩
      have S3 : Aside _ := S2
      have HD2 : Hid _ := hd2
      clear S2 hd2
      go_wp2
      go_roundg (i + (j - i))
      case measure => omega
      case rel =>
        obtain ⟨e1, e2, e3, e4, e5⟩ := HI.out
        obtain ⟨f1, f2, f3⟩ := HV.out
        refine ⟨i, j - i, d2, P, v2, v1, u ++ Q, rfl, by congr 1; omega, hi, by omega, by omega, by omega, by omega, ?_, ⟨e1, f3, f2, by rw [HD2.out]; simp, by rw [← e5, f1]; simp⟩, S3⟩
        have a1 := size_of HD2.out; have a2 := size_of e4; rw [f1] at a2; simp at a1 a2; omega
    · subst hij
      have c1 : ((i : Int) == (i : Int)) = true := by simp
      have HC := fun (a b n z : Int) (h1 : a = P.length) (h2 : b = P.length + u.length + ([] : List Od).length) (h3 : n = u.length) (h4 : z = dk.size) => swapRange_int k aE zE fv blk off cap a b n z d0 dk w0 wr R h4 (by omega) S1.out P u [] v Q (by rw [HI.out.2.2.2.1]; simp) (by rw [HI.out.2.1, HI.out.2.2.1]) h1 h2 h3 (by omega)
      obtain ⟨e1, e2, e3, e4, e5⟩ := HI.out
      have HE : Hid (((m : Int) - (i : Int) = P.length) ∧ ((m : Int) = P.length + u.length + ([] : List Od).length) ∧ ((i : Int) = u.length) ∧ ((d.size : Int) = dk.size)) := ⟨by omega, by simp; omega, by omega, by omega⟩
      have HC' : Hid _ := HC _ _ _ _ HE.out.1 HE.out.2.1 HE.out.2.2.1 HE.out.2.2.2
      rw [Int.toNat_natCast] at HC'
      clear HC e1 e2 e3 e4 e5 S1
      go_wp2_with fail
      refine Calls.mono HC'.out ?_
      rintro e w2 ⟨rfl, d2, hd2, S2⟩
      have HD2 : Hid _ := hd2
      clear hd2
      go_wp2
      go_end0
      refine ⟨rfl, d2, ?_, S2⟩
      rw [HD2.out, ← HI.out.2.2.2.2]; simp
    · have c1 : ((i : Int) == (j : Int)) = false := by simp; omega
      have c2 : ¬ (i : Int) = (j : Int) := by omega
      have c3 : (j : Int) < (i : Int) := by omega
      have c4 : decide ((j : Int) < (i : Int)) = true := decide_eq_true c3
      obtain ⟨u1, u2, hu12, hu1⟩ : ∃ u1 u2, u = u1 ++ u2 ∧ u1.length = j := cut2 (by have := HI.out.2.1; omega)
      have hl2 : u2.length = i - j := by have := HI.out.2.1; rw [hu12] at this; simp at this; omega
      have HC := fun (a b n z : Int) (h1 : a = P.length) (h2 : b = P.length + u1.length + u2.length) (h3 : n = u1.length) (h4 : z = dk.size) => swapRange_int k aE zE fv blk off cap a b n z d0 dk w0 wr R h4 (by omega) S1.out P u1 u2 v Q (by rw [HI.out.2.2.2.1, hu12]; simp) (by rw [HI.out.2.2.1, hu1]) h1 h2 h3 (by omega)
      obtain ⟨e1, e2, e3, e4, e5⟩ := HI.out
      have HE : Hid (((m : Int) - (i : Int) = P.length) ∧ ((m : Int) = P.length + u1.length + u2.length) ∧ ((j : Int) = u1.length) ∧ ((d.size : Int) = dk.size)) := ⟨by omega, by omega, by omega, by omega⟩
      have HC' : Hid _ := HC _ _ _ _ HE.out.1 HE.out.2.1 HE.out.2.2.1 HE.out.2.2.2
      have HV : Hid (u = u1 ++ u2 ∧ u1.length = j ∧ u2.length = i - j) := ⟨hu12, hu1, hl2⟩
      rw [Int.toNat_natCast] at HC'
      clear HC e1 e2 e3 e4 e5 hu12 hu1 hl2 S1
      go_wp2_with fail
      refine Calls.mono HC'.out ?_
      rintro e w2 ⟨rfl, d2, hd2, S2⟩
      have S3 : Aside _ := S2
      have HD2 : Hid _ := hd2
      clear S2 hd2
      go_wp2
      go_roundg ((i - j) + j)
      case measure => omega
      case rel =>
        obtain ⟨e1, e2, e3, e4, e5⟩ := HI.out
        obtain ⟨f1, f2, f3⟩ := HV.out
        refine ⟨i - j, j, d2, P ++ v, u2, u1, Q, by congr 1; omega, rfl, by omega, hj, by omega, by omega, by omega, ?_, ⟨by simp; omega, f3, f2, by rw [HD2.out], by rw [← e5, f1]; simp⟩, S3⟩
        have a1 := size_of HD2.out; have a2 := size_of e4; rw [f1] at a2; simp at a1 a2; omega
end Go.Proofs.YtpekfpfhonechaaGreat.Cal

namespace Go.Proofs.YtpekfpfhonechaaGreat.Cal
open Go.Shelf Go.RowKit Go.Lib Go.Sort
set_option linter.unusedSimpArgs false
set_option linter.unusedVariables false

theorem insS_eq {α : Type} {lt : α → α → Bool} {x : α} : ∀ (s1 s2 : List α), (∀ y ∈ s1, lt x y = false) → (∀ y ∈ s2, lt x y = true) → insS lt x (s1 ++ s2) = s1 ++ x :: s2
  | [], [], _, _ => rfl
  | [], y :: t, _, h => by
    show insS lt x (y :: t) = x :: y :: t
    rw [insS, if_pos (h y (List.mem_cons_self ..))]
  | y :: s1, s2, h1, h2 => by
    show insS lt x (y :: (s1 ++ s2)) = y :: (s1 ++ x :: s2)
    rw [insS, if_neg (by rw [h1 y (List.mem_cons_self ..)]; simp), insS_eq s1 s2 (fun z hz => h1 z (List.mem_cons_of_mem _ hz)) h2]
theorem srt_last {α : Type} {lt : α → α → Bool} (hO : SWO lt) {x y : α} {s : List α} (h : Srt lt (s ++ [y])) (hy : lt x y = false) : ∀ z ∈ s ++ [y], lt x z = false := by
  intro z hz
  rcases List.mem_append.1 hz with e | e
  · exact hO.ntrans x y z hy (h.cross z e y (List.mem_singleton.2 rfl))
  · rw [List.mem_singleton.1 e]; exact hy

set_option maxHeartbeats 8000000 in
set_option maxRecDepth 1000000 in
theorem ins_calls (k : Nat) (aE : ∀ w, (isAgg 51).run Tryz.prog w = .ok true w) (zE : ∀ w, (Go.sizeOf 51).run Tryz.prog w = .ok k w) (cf : Od → Od → Int) (hO : SWO (ltOf cf)) (g : Nat) (cb : Array Value) (blk off cap : Nat) (a b : Nat) (d0 d : Array Od) (w0 w : World) (eg : ∀ args w, (callFunc g args).run Tryz.prog w = .ok (.enter g args) w) (hcmp : CmpLays Tryz.prog g cb oC k cf blk off d0.size w0) (R : RowK oC k w0 blk off d0) (hs : d0.size = d.size) (S : SWK oC k w0 blk off d w) (A X C : List Od)
    (hd : d.toList = A ++ X ++ C) (ha : a = A.length) (hb : b = A.length + X.length) (hsz : d.size < 1000000) :
    Calls Tryz.prog 156 #[.slice (some ⟨blk, off, none⟩) d.size cap, .int .i64 a, .int .i64 b, .func (.func g) #[] cb] w fun e w' => e = .returned (.tuple #[]) ∧ ∃ d' : Array Od, d'.toList = A ++ stab (ltOf cf) X ++ C ∧ SWK oC k w0 blk off d' w' := by
  have mixed : Tryz.prog.follows .mixedOrders = true := by kernel_rfl
  have hsd := size_of hd
  simp only [List.length_append] at hsd
  have S0 : Aside (SWK oC k w0 blk off d w) := S
  have HC : Aside _ := hcmp
  have HD : Hid _ := hd
  have HA : Hid (a = A.length ∧ b = A.length + X.length ∧ d.size = A.length + X.length + C.length) := ⟨ha, hb, hsd⟩
  have hab : a ≤ b := by omega
  have hbd : b ≤ d.size := by omega
  have HH : Hid _ := hO
  clear S hcmp hd ha hb hsd hO
  go_enter Tryz.func156, Tryz.ntmps156
  go_wp2
  go_loopg [8] (b - a) (fun g1 vi wr => ∃ (i : Nat) (dk : Array Od), vi = .int .i64 i ∧ a < i ∧ i ≤ b + 1 ∧ b + 1 - i ≤ g1 + 1 ∧ dk.size = d.size ∧ Hid (∃ X1 X2, X = X1 ++ X2 ∧ (i ≤ b → X1.length + a = i) ∧ (b < i → X2 = []) ∧ dk.toList = A ++ stab (ltOf cf) X1 ++ X2 ++ C) ∧ Aside (SWK oC k w0 blk off dk wr))
  case atStart =>
    refine ⟨a + 1, d, by go_num, by omega, by omega, by omega, rfl, ?_, S0⟩
    obtain ⟨e1, e2, e3⟩ := HA.out
    cases X with
    | nil => exact ⟨[], [], rfl, fun h => by simp at e2; omega, fun _ => rfl, by simpa [stab] using HD.out⟩
    | cons x t => exact ⟨[x], t, rfl, fun h => by simp; omega, fun h => by simp at e2; exact List.eq_nil_of_length_eq_zero (by omega), by simpa [stab, insS] using HD.out⟩
  case round =>
    clear S0
    obtain ⟨i, dk, rfl, hai, hib, hg1, hsk, HO, S1⟩ := hrel
    by_cases hlt : i < b
    · have hltz : (i : Int) < (b : Int) := by omega
      obtain ⟨X1, X2, hX, hX1, -, hdk⟩ := HO.out
      obtain ⟨x, X3, rfl⟩ : ∃ x X3, X2 = x :: X3 := by
        cases X2 with
        | nil => exfalso; have h1 := HA.out.2.1; have h2 := hX1 (by omega); rw [hX] at h1; simp at h1; have := HA.out.1; omega
        | cons x t => exact ⟨x, t, rfl⟩
      have HX : Hid (X = X1 ++ x :: X3 ∧ X1.length + a = i ∧ dk.toList = A ++ stab (ltOf cf) X1 ++ x :: X3 ++ C) := ⟨hX, hX1 (by omega), hdk⟩
      have HT : Hid ((stab (ltOf cf) X1).length = X1.length) := by
        have e1 := size_of hdk; have e2 := size_of HD.out; rw [hX] at e2; simp at e1 e2; show _ = _; omega
      clear hX hX1 hdk HO
      go_wp2
      go_loopg [9] i (fun g2 vj wr2 => ∃ (j : Nat) (dj : Array Od), vj = .int .i64 j ∧ a ≤ j ∧ j ≤ i ∧ j ≤ g2 ∧ dj.size = d.size ∧ Hid (∃ S1 S2, S1.length + a = j ∧ stab (ltOf cf) X1 = S1 ++ S2 ∧ (∀ y ∈ S2, ltOf cf x y = true) ∧ dj.toList = (A ++ S1) ++ x :: (S2 ++ X3 ++ C)) ∧ Aside (SWK oC k w0 blk off dj wr2))
      case atStart =>
        refine ⟨i, dk, rfl, by omega, Nat.le_refl _, Nat.le_refl _, hsk, ⟨stab (ltOf cf) X1, [], by rw [HT.out]; exact HX.out.2.1, by simp, by simp, by rw [HX.out.2.2]; simp⟩, S1⟩
      case round =>
        clear S1
        obtain ⟨j, dj, rfl, haj, hji, hg2, hsj, HI, S1⟩ := hrel
        by_cases hja : a < j
        · obtain ⟨s1, s2, h1, h2, h3, h4⟩ := HI.out
          obtain ⟨jp, rfl⟩ : ∃ jp, j = jp + 1 := ⟨j - 1, by omega⟩
          obtain ⟨s0, y, rfl⟩ : ∃ s0 y, s1 = s0 ++ [y] := by
            rcases List.eq_nil_or_concat s1 with e | ⟨s0, y, e⟩
            · exfalso; rw [e] at h1; simp at h1; omega
            · exact ⟨s0, y, by simpa using e⟩
          have HK : Hid (s0.length + a = jp ∧ stab (ltOf cf) X1 = s0 ++ [y] ++ s2 ∧ (∀ y ∈ s2, ltOf cf x y = true) ∧ dj.toList = (A ++ s0) ++ y :: ([] ++ x :: (s2 ++ X3 ++ C))) := ⟨by simp at h1; omega, h2, h3, by rw [h4]; simp⟩
          have hxj : dj[jp + 1]! = x := get_mid h4 (by simp; have := HA.out.1; simp at h1; omega)
          have hxp : dj[jp]! = y := get_mid HK.out.2.2.2 (by simp; have := HA.out.1; have := HK.out.1; omega)
          have HXJ : Hid _ := hxj
          have HXP : Hid _ := hxp
          clear h1 h2 h3 h4 HI hxj hxp
          have hwp : IntKind.i64.wrap (jp : Int) = (jp : Int) := by rw [IntKind.wrap_i64]; omega
          have hjaz' : (a : Int) < (jp : Int) + 1 := by omega
          have hjad : decide ((a : Int) < (jp : Int) + 1) = true := decide_eq_true hjaz'
          by_cases hlv : cf x y < 0
          · have ea40 : ((jp : Int) + 1).toNat = jp + 1 := by omega
            have pa40 : (0 : Int) ≤ (jp : Int) + 1 := by omega
            have ba40 : (jp : Int) + 1 < (d.size : Int) := by omega
            have ra40 : IntKind.i64.wrap ((jp : Int) + 1) = (jp : Int) + 1 := by rw [IntKind.wrap_i64]; omega
            have ec40 : ((jp : Int)).toNat = jp := by omega
            have pc40 : (0 : Int) ≤ (jp : Int) := by omega
            have bc40 : (jp : Int) < (d.size : Int) := by omega
            have rc40 : IntKind.i64.wrap ((jp : Int)) = (jp : Int) := by rw [IntKind.wrap_i64]; omega
            have l40a := S1.out.ld R (by omega) Tryz.prog (jp + 1) (by omega)
            have l40b := S1.out.ld R (by omega) Tryz.prog (jp) (by omega)
            rw [HXJ.out] at l40a
            rw [HXP.out] at l40b
            have hc40 := S1.out.cmp HC.out (by omega) x y
            have hd40 : decide (cf x y < 0) = true := by exact decide_eq_true hlv
            go_wp2_with fail
            go_quiet_grown (first | (go_at_fn g; refine Calls.grown_of (hc40 _ _)))
            have S2 : Aside (SWK oC k w0 blk off dj (grow (wr.drewN nq) osq)) := S1.out.grown nq osq
            clear l40a l40b hc40 S1
            generalize grow (wr.drewN nq) osq = w2 at S2 ⊢
            clear nq osq
            have S3 : Aside (SWK oC k w0 blk off (swp dj (jp + 1) (jp)) ((w2.drew.setCells blk (off + (jp + 1) * k) (oC dj[jp]!)).setCells blk (off + (jp) * k) (oC dj[jp + 1]!))) := S2.out.swapped R (jp + 1) (jp) (by omega) (by omega)
            have l41a := S2.out.ld1 R (by omega) Tryz.prog (jp + 1) (by omega)
            have l41b := S2.out.ld1 R (by omega) Tryz.prog (jp) (by omega)
            have s41a := S2.out.st1 R (by omega) Tryz.prog (jp + 1) (by omega) dj[jp]!
            have s41b := S2.out.st2 R (by omega) Tryz.prog (jp + 1) (jp) (by omega) (by omega) dj[jp]! dj[jp + 1]!
            have n41a : (oC dj[jp + 1]!).length = k := R.hk _
            have n41b : (oC dj[jp]!).length = k := R.hk _
            generalize oC dj[jp + 1]! = cI41 at S3 l41a s41b n41a
            generalize oC dj[jp]! = cJ41 at S3 l41b s41a s41b n41b
            clear S2
            go_wp2_with fail
            go_big_region_o
            clear l41a l41b s41a s41b
            generalize (w2.drew.setCells blk (off + (jp + 1) * k) cJ41).setCells blk (off + (jp) * k) cI41 = w3 at S3 ⊢
            go_wp2
            go_roundg jp
            case measure => omega
            case rel =>
              refine ⟨jp, swp dj (jp + 1) jp, by first | rfl | go_num | (congr 1; omega), by omega, by omega, Nat.le_refl _, by rw [size_swp]; exact hsj, ?_, S3⟩
              obtain ⟨h1, h2, h3, h4⟩ := HK.out
              have e1 : jp = (A ++ s0).length := by simp; have := HA.out.1; omega
              refine ⟨s0, y :: s2, h1, by rw [h2]; simp, ?_, by rw [swp_comm' h4 e1 (by simp at e1 ⊢; omega)]; simp⟩
              intro z hz
              rcases List.mem_cons.1 hz with e | e
              · rw [e]; exact decide_eq_true hlv
              · exact h3 z e
          · have ea42 : ((jp : Int) + 1).toNat = jp + 1 := by omega
            have pa42 : (0 : Int) ≤ (jp : Int) + 1 := by omega
            have ba42 : (jp : Int) + 1 < (d.size : Int) := by omega
            have ra42 : IntKind.i64.wrap ((jp : Int) + 1) = (jp : Int) + 1 := by rw [IntKind.wrap_i64]; omega
            have ec42 : ((jp : Int)).toNat = jp := by omega
            have pc42 : (0 : Int) ≤ (jp : Int) := by omega
            have bc42 : (jp : Int) < (d.size : Int) := by omega
            have rc42 : IntKind.i64.wrap ((jp : Int)) = (jp : Int) := by rw [IntKind.wrap_i64]; omega
            have l42a := S1.out.ld R (by omega) Tryz.prog (jp + 1) (by omega)
            have l42b := S1.out.ld R (by omega) Tryz.prog (jp) (by omega)
            rw [HXJ.out] at l42a
            rw [HXP.out] at l42b
            have hc42 := S1.out.cmp HC.out (by omega) x y
            have hd42 : decide (cf x y < 0) = false := by simp only [decide_eq_false_iff_not]; omega
            go_wp2_with fail
            go_quiet_grown (first | (go_at_fn g; refine Calls.grown_of (hc42 _ _)))
            have S2 : Aside (SWK oC k w0 blk off dj (grow (wr.drewN nq) osq)) := S1.out.grown nq osq
            clear l42a l42b hc42 S1
            generalize grow (wr.drewN nq) osq = w2 at S2 ⊢
            clear nq osq
            go_wp2
            go_roundg (b - (i + 1))
            case measure => omega
            case rel =>
              refine ⟨i + 1, dj, by go_num, by omega, by omega, by omega, hsj, ?_, S2⟩
              obtain ⟨h1, h2, h3, h4⟩ := HK.out
              obtain ⟨f1, f2, f3⟩ := HX.out
              refine ⟨X1 ++ [x], X3, by rw [f1]; simp, fun _ => by simp; omega, fun h => by omega, ?_⟩
              rw [stab_snoc, h2, insS_eq (s0 ++ [y]) s2 (srt_last HH.out (by have := stab_srt HH.out X1; rw [h2] at this; exact this.left) (decide_eq_false (by omega))) h3, h4]
              simp
        · have hjaz : decide ((j : Int) > (a : Int)) = false := decide_eq_false (by omega)
          have hjaz' : ¬ (a : Int) < (j : Int) := by omega
          have S2 : Aside (SWK oC k w0 blk off dj wr.drew) := S1.out.drew
          clear S1
          go_wp2_with fail
          go_big_region_o
          all_goals go_wp2
          go_roundg (b - (i + 1))
          case measure => omega
          case rel =>
            refine ⟨i + 1, dj, by go_num, by omega, by omega, by omega, hsj, ?_, S2⟩
            obtain ⟨s1, s2, h1, h2, h3, h4⟩ := HI.out
            obtain ⟨f1, f2, f3⟩ := HX.out
            have hz : s1 = [] := List.eq_nil_of_length_eq_zero (by omega)
            subst hz
            refine ⟨X1 ++ [x], X3, by rw [f1]; simp, fun _ => by simp; omega, fun h => by omega, ?_⟩
            rw [stab_snoc, h2, insS_eq [] s2 (by simp) h3, h4]
            simp
    · have hltz : ¬ (i : Int) < (b : Int) := by omega
      go_wp2
      go_end0
      refine ⟨rfl, dk, ?_, S1.out⟩
      obtain ⟨X1, X2, hX, hX1, hX2, hdk⟩ := HO.out
      have hz : X2 = [] := by
        rcases Nat.lt_or_ge b i with h | h
        · exact hX2 h
        · have e := hX1 h; have e1 := HA.out.1; have e2 := HA.out.2.1; rw [hX] at e2; simp at e2
          exact List.eq_nil_of_length_eq_zero (by omega)
      subst hz
      rw [hdk, hX]; simp
end Go.Proofs.YtpekfpfhonechaaGreat.Cal
