/- ClientOther returns true for every number, every state that is shown, every other records and every two keys, and they read afterwards as before; no condition. -/
import Derived.Test.YtocphdikppeijaaGreatLy53
import Derived.Test.YtocphdikppeijaaGreatOy1
import Derived.Test.YtocphdikppeijaaGreatLy54
import Derived.OpenShut
namespace Go.Proofs.YtocphdikppeijaaGreat
open Go.RowKit
set_option linter.unusedSimpArgs false
set_option linter.unusedVariables false

variable {p b x y : Nat} {T : List ByteArray} {S : List (Int × ByteArray)}
/-- What is told of a key is true, or nothing is told. -/
def TrueP (p b x y : Nat) (T : List ByteArray) (S : List (Int × ByteArray)) (w : World) (L : List Rc) (SEQ : Int) (key : ByteArray) (e : Ending) (w' : World) : Prop :=
  (∃ T', Grew x y p b T S w 40 T' w') ∧
  ((∃ E, E ≠ 0 ∧ e = .returned (.tuple #[.agg lightZ, .int .i64 E])) ∨ ∃ v h, Truth L key v h ∧ e = .returned (.tuple #[.agg #[.int .i64 SEQ, .string v, .bool h], .int .i64 0]))
theorem true_calls (f : Int) (hf : 1 ≤ f ∧ f ≤ 4) (L : List Rc) (SEQ : Int) (key : ByteArray) (n : Nat) (A : Nat → Int) (r : ByteArray) (q : Pf) (who : Int) (S1 : List (Int × ByteArray)) (w : World) (h0 : riseR L = 0) (hn : (n : Int) ≤ 3 * f + 1) (hA : ∀ i, byE (ckB (A i) r) = 0) (hR : RootOf T L r) (hok : pfOk q = true) (hT : T.length ≤ 200000) (hw : isSg who = true)
    (he : byE (prB SEQ r ⟨(pfB q).toArray⟩ (ckM r A [] n)) = 0) (hS1 : S1.length ≤ 1000) (hk1 : Kps (ckS r A [] n) S1) (h : Book w p b x y T (note S1 (who, byS (prB SEQ r ⟨(pfB q).toArray⟩ (ckM r A [] n))))) :
    Calls Tryz.prog 9 #[.agg #[.int .i64 f, .int .i64 3, .int .i64 2, .int .i64 5], .pointer (some ⟨p, 0, none⟩), .string key, .string ⟨(sgB (sgM S1 who (prB SEQ r ⟨(pfB q).toArray⟩ (ckM r A [] n)))).toArray⟩] w (TrueP p b x y T (note S1 (who, byS (prB SEQ r ⟨(pfB q).toArray⟩ (ckM r A [] n)))) w L SEQ key) := by
  have hnl := note_len S1 (who, byS (prB SEQ r ⟨(pfB q).toArray⟩ (ckM r A [] n)))
  have ho := opnd_sgM S1 _ who (prB SEQ r ⟨(pfB q).toArray⟩ (ckM r A [] n)) hw he (Kps.refl _)
  have hsz := sgM_size S1 who (prB SEQ r ⟨(pfB q).toArray⟩ (ckM r A [] n)) hw
  have hml := ckM_len r A [] n
  by_cases hg : ((qset (vote (note S1 (who, byS (prB SEQ r ⟨(pfB q).toArray⟩ (ckM r A [] n)))) 5 0 SEQ r) (3 * f + 1) (ckM r A [] n)).length : Int) ≤ f
  · refine (verify_few f 3 2 5 key _ w h (by omega) hsz (fitsC f hf) (by omega) (by rw [ho]) (by rw [ho]; rfl) (by rw [ho]; show (ckM r A [] n).length < _; omega) (by rw [ho]; exact ckM_sizes r A [] n (by omega)) (by rw [ho]; exact hg)).mono ?_
    rintro e w' ⟨rfl, hb⟩
    exact ⟨⟨T, ((Grew.refl h).below hb).le (by omega)⟩, Or.inl ⟨30, by decide, rfl⟩⟩
  · have htz : (⟨(pfB q).toArray⟩ : ByteArray).size ≤ maxLen := by
      have := pfB_len hok
      show (pfB q).length ≤ maxLen
      unfold maxLen
      omega
    refine (verify_much f 3 2 5 key _ w h (by omega) hsz (fitsC f hf) (by omega) (by rw [ho]) (by rw [ho]; rfl) (by rw [ho]; show (ckM r A [] n).length < _; omega) (by omega) q (by rw [ho]; exact htz) (by rw [ho]; exact of_pf hok) hok (by rw [ho]; exact ckM_sizes r A [] n (by omega)) (by rw [ho]; show f < ((qset (vote _ 5 0 SEQ r) (3 * f + 1) (ckM r A [] n)).length : Int); omega)).mono ?_
    rintro e w' ⟨T', G, hc⟩
    rw [ho] at hc
    have hl := G.len
    refine ⟨⟨T', G⟩, ?_⟩
    rcases hc with ⟨_, E, hE, he⟩ | ⟨_, h1, h2, h3, he⟩
    · exact Or.inl ⟨E, hE, he⟩
    · exact Or.inr ⟨_, _, sound (by omega) (RootOf.ext G.ext hR) h0 h1 h2 h3, he⟩
end Go.Proofs.YtocphdikppeijaaGreat

namespace Go.Proofs.YtocphdikppeijaaGreat
open Go.RowKit
set_option linter.unusedSimpArgs false
set_option linter.unusedVariables false

variable {p b x y : Nat} {T : List ByteArray} {S : List (Int × ByteArray)}
set_option maxHeartbeats 40000000 in
set_option maxRecDepth 100000 in
theorem clientOther_calls (faults : Int) (a : Option Addr) (cap : Nat) (l : List Rc) (seq0 certs spoil : Int) (ov : Value) (lo : List Rc) (key asked : ByteArray) (w : World) (hl : RcsC w (.slice a l.length cap) l) (hlo : RcsC w ov lo) :
    Calls Tryz.prog 4 #[.int .i64 faults, .agg #[.slice a l.length cap, .int .i64 seq0, .int .i64 certs, .int .i64 spoil], ov, .string key, .string asked] w fun e w' => e = .returned (.bool true) ∧ Below w.heap.size w w' := by
  obtain ⟨oa, oc, rfl⟩ : ∃ oa oc, ov = .slice oa lo.length oc := by obtain ⟨_, oa, oc, e, _⟩ := hlo; exact ⟨oa, oc, e⟩
  obtain ⟨W1, hW1, X1, B1, Z1⟩ : ∃ W1, w.alloc (.cells #[.slice a l.length cap, .int .i64 seq0, .int .i64 certs, .int .i64 spoil] 24) = W1 ∧ Blk W1 w.heap.size #[.slice a l.length cap, .int .i64 seq0, .int .i64 certs, .int .i64 spoil] 24 ∧ Below w.heap.size w W1 ∧ W1.heap.size = w.heap.size + 1 :=
    ⟨_, rfl, blk_new _ _ _ _ rfl, by go_grown, by simp⟩
  have HN : Hid _ := newBook_calls W1
  have HAw : Hid _ := awake_calls
  have har := arn_range seq0 100 (by decide)
  have hfa := arn_range faults 4 (by decide)
  have HCf : Hid _ := fun wx => config_calls faults wx
  have zW1 : w.heap.size < W1.heap.size := by omega
  have HSh := fun (f : Int) (hf : 1 ≤ f ∧ f ≤ 4) (p b x y : Nat) (wx : World) (h : Book wx p b x y [] []) (hL : Rcs wx (.slice a l.length cap) l) (hll : l.length ≤ 60) => shown_calls f hf a cap l seq0 certs spoil key wx h hL hll
  generalize arn seq0 100 = sq at *
  obtain ⟨f, hf⟩ : ∃ f, 1 + arn faults 4 = f := ⟨_, rfl⟩
  have hf4 : 1 ≤ f ∧ f ≤ 4 := by omega
  rw [hf] at HCf
  obtain ⟨SEQ, hSEQ⟩ : ∃ SEQ, 4 * (1 + sq) = SEQ := ⟨_, rfl⟩
  rw [hSEQ] at HSh
  have HS0 : Hid _ := HSh
  have HL1 : Hid _ := hl.1.below B1
  have HL0 : Hid _ := hl.1
  have HLO1 : Hid _ := hlo.1.below B1
  clear HSh hl hf hfa hlo
  go_enter Tryz.func4, Tryz.ntmps4
  go_wp2_with fail
  refine Calls.mono HN.out ?_
  rintro e w2' ⟨p, b, x, y, rfl, hB, b1, g1', g2', g3, g4⟩
  go_wp2_with fail
  refine (HCf.out _).mono ?_
  rintro e w3 ⟨rfl, b3⟩
  obtain ⟨W4, hW4, XC, B4⟩ : ∃ W4, w3.alloc (.cells #[.int .i64 f, .int .i64 3, .int .i64 2, .int .i64 5] 28) = W4 ∧ Blk W4 w3.heap.size #[.int .i64 f, .int .i64 3, .int .i64 2, .int .i64 5] 28 ∧ Below w3.heap.size w3 W4 := ⟨_, rfl, blk_new _ _ _ _ rfl, by go_grown⟩
  have b24 := chain b3 B4
  have X4 := (X1.below b1).below b24
  have s0 : W4.cell? ⟨w.heap.size, 0, none⟩ = some (.slice a l.length cap) := X4.cell rfl
  have s1 : W4.cell? ⟨w.heap.size, 1, none⟩ = some (.int .i64 seq0) := X4.cell rfl
  have s2 : W4.cell? ⟨w.heap.size, 2, none⟩ = some (.int .i64 certs) := X4.cell rfl
  have s3 : W4.cell? ⟨w.heap.size, 3, none⟩ = some (.int .i64 spoil) := X4.cell rfl
  have f0 : W4.cell? ⟨w3.heap.size, 0, none⟩ = some (.int .i64 f) := XC.cell rfl
  have hB4 := hB.below b24
  have HL4 : Hid _ := (Rcs.below HL1.out b1).below b24
  have HLO4 : Hid _ := (Rcs.below HLO1.out b1).below b24
  have b4 := chain (chain B1 b1) b24
  have z3 : w.heap.size + 1 ≤ w3.heap.size := by have := b1.size; have := b3.size; omega
  have zc4 := Blk.lt XC
  have HX4 : Hid _ := X4
  have HXC : Hid _ := XC
  have HB4 : Hid _ := hB4
  have hx3 : x < w3.heap.size ∧ y < w3.heap.size := by have := hB.lts; have := b3.size; omega
  clear X1 XC X4 hB4 hB HL1 HLO1 HN HCf Z1 b1 b3 B4 b24 B1 hW1
  by_cases hb1 : 60 < l.length
  · have hd : decide (60 < (l.length : Int)) = true := by simp only [decide_eq_true_eq]; omega
    go_wp2_with fail
    refine (HAw.out _).mono ?_
    rintro e w7 ⟨rfl, b7⟩
    go_wp2
    go_ret
    exact ⟨rfl, chain b4 b7⟩
  by_cases hb2 : 60 < lo.length
  · have hd : decide (60 < (l.length : Int)) = false := by simp only [decide_eq_false_iff_not]; omega
    have hd2 : decide (60 < (lo.length : Int)) = true := by simp only [decide_eq_true_eq]; omega
    go_wp2_with fail
    refine (HAw.out _).mono ?_
    rintro e w7 ⟨rfl, b7⟩
    go_wp2
    go_ret
    exact ⟨rfl, chain b4 b7⟩
  have hd : decide (60 < (l.length : Int)) = false := by simp only [decide_eq_false_iff_not]; omega
  have hd2 : decide (60 < (lo.length : Int)) = false := by simp only [decide_eq_false_iff_not]; omega
  have HS1 : Hid _ := HS0.out f hf4 p b x y W4 HB4.out HL4.out (by omega)
  clear HS0
  go_wp2_with fail
  refine Calls.mono HS1.out ?_
  rintro e w6 hs
  rcases hs with ⟨s, g, S', rfl, ⟨T', hB6⟩, o6⟩ | ⟨n, A, r, T6, q, r0, hK, n1, hn, hA, hR, hF, hSh, hLd, hT, he, rfl, hB6, o6⟩
  · have b6 : Below w.heap.size w w6 := o6.below (by omega) (by omega) b4 b4.size
    clear s0 s1 s2 s3 f0
    go_wp2_with fail
    refine (HAw.out _).mono ?_
    rintro e w7 ⟨rfl, b7⟩
    go_wp2
    go_ret
    exact ⟨rfl, chain b6 b7⟩
  have b6 : Below w.heap.size w w6 := o6.below (by omega) (by omega) b4 b4.size
  have hrz := root_size hR
  rw [← hSEQ] at hA
  have hAb := ckA sq har hrz hA
  have hok := (pfFits_parts hF).1
  have hsl := ckS_len r A [] n
  simp only [List.length_nil, Nat.zero_add] at hsl
  have HTo : Hid _ := true_calls f hf4 l SEQ asked n A r q 0 (ckS r A [] n) w6 r0 hn hAb hR hok (by omega) (by decide) he (by omega) (Kps.refl _) hB6
  have HTo2 : Hid _ := fun (T : List ByteArray) (q2 : Pf) (S1 : List (Int × ByteArray)) (wx : World) (hR2 : RootOf T l r) (hok2 : pfOk q2 = true) (hT2 : T.length ≤ 200000) (he2 : byE (prB SEQ r ⟨(pfB q2).toArray⟩ (ckM r A [] n)) = 0) (h1 : S1.length ≤ 1000) (h2 : Kps (ckS r A [] n) S1) (h3 : Book wx p b x y T (note S1 (1, byS (prB SEQ r ⟨(pfB q2).toArray⟩ (ckM r A [] n))))) => true_calls f hf4 l SEQ asked n A r q2 1 S1 wx r0 hn hAb hR2 hok2 hT2 (by decide) he2 h1 h2 h3
  have hofs := of_sgM (ckS r A [] n) 0 (prB SEQ r ⟨(pfB q).toArray⟩ (ckM r A [] n)) (by decide)
  have hms := sgM_size (ckS r A [] n) 0 (prB SEQ r ⟨(pfB q).toArray⟩ (ckM r A [] n)) (by decide)
  have hofb : ofR (sgM (ckS r A [] n) 0 (prB SEQ r ⟨(pfB q).toArray⟩ (ckM r A [] n))).body = .ok (prB SEQ r ⟨(pfB q).toArray⟩ (ckM r A [] n)) := by
    obtain ⟨h1, h2⟩ := byE_ok he
    show ofR (byS _) = _
    unfold byS
    rw [if_pos he]
    exact of_bytes _ h1 (by omega)
  have hmb : (sgM (ckS r A [] n) 0 (prB SEQ r ⟨(pfB q).toArray⟩ (ckM r A [] n))).body.size ≤ maxLen := by have := byS_size (prB SEQ r ⟨(pfB q).toArray⟩ (ckM r A [] n)); unfold maxLen; show (byS _).size ≤ _; omega
  have HKp : Hid (Kps (ckS r A [] n) (note (ckS r A [] n) (0, byS (prB SEQ r ⟨(pfB q).toArray⟩ (ckM r A [] n)))) ∧ (note (ckS r A [] n) ((0 : Int), byS (prB SEQ r ⟨(pfB q).toArray⟩ (ckM r A [] n)))).length ≤ 999) := by
    refine ⟨Kps.note _ _, ?_⟩
    have := note_len (ckS r A [] n) ((0 : Int), byS (prB SEQ r ⟨(pfB q).toArray⟩ (ckM r A [] n)))
    omega
  have X6 : Blk w6 w.heap.size #[.slice a l.length cap, .int .i64 seq0, .int .i64 certs, .int .i64 spoil] 24 := Blk.off2 HX4.out o6 (by omega) (by omega)
  have XC6 : Blk w6 w3.heap.size #[.int .i64 f, .int .i64 3, .int .i64 2, .int .i64 5] 28 := Blk.off2 HXC.out o6 (by omega) (by omega)
  have HL6 : Hid _ := Rcs.off2 HL4.out HB4.out o6
  have HLO6 : Hid _ := Rcs.off2 HLO4.out HB4.out o6
  have HRi : Hid _ := rising_of r0
  have HB6 : Hid _ := hB6
  have HR6 : Hid _ := hR
  have q0 : w6.cell? ⟨w3.heap.size, 0, none⟩ = some (.int .i64 f) := XC6.cell rfl
  have q1 : w6.cell? ⟨w3.heap.size, 1, none⟩ = some (.int .i64 3) := XC6.cell rfl
  have q2 : w6.cell? ⟨w3.heap.size, 2, none⟩ = some (.int .i64 2) := XC6.cell rfl
  have q3 : w6.cell? ⟨w3.heap.size, 3, none⟩ = some (.int .i64 5) := XC6.cell rfl
  have HX6 : Hid _ := X6
  have HXC6 : Hid _ := XC6
  have z6 := o6.size
  have hml := ckM_len r A [] n
  have hmo := ckM_ok r A [] n (by omega)
  have hmbs := ckM_bytes r A [] n hrz.2
  generalize (⟨(pfB q).toArray⟩ : ByteArray) = tq at *
  generalize note (ckS r A [] n) ((0 : Int), byS (prB SEQ r tq (ckM r A [] n))) = S6 at *
  generalize sgM (ckS r A [] n) 0 (prB SEQ r tq (ckM r A [] n)) = M at *
  generalize (⟨(sgB M).toArray⟩ : ByteArray) = MB at *
  generalize (forS A SEQ n).length = gd at *
  have HMls : Hid (∀ m ∈ ckM r A [] n, m.body.size ≤ maxLen ∧ m.sig.size ≤ maxLen) := ckM_sizes r A [] n (by omega)
  have HKps : Hid _ := HKp.out.1
  have HS6 := HKp.out.2
  generalize hML : ckM r A [] n = ML at *
  clear X6 XC6 s0 s1 s2 s3 f0 HS1 HX4 HXC HL4 HLO4 HB4 hR hF hSh hLd he hB6 hA hAb b4 hML HKp hok hsl hK hW4
  go_wp2_with fail
  refine Calls.mono HTo.out ?_
  rintro e w7 ⟨⟨T7, G7⟩, hc⟩
  have b7 : Below w.heap.size w w7 := G7.off.below (by omega) (by omega) b6 b6.size
  obtain ⟨E, n0, V, H, rfl, HC⟩ : ∃ (E n0 : Int) (V : ByteArray) (H : Bool), e = .returned (.tuple #[.agg #[.int .i64 n0, .string V, .bool H], .int .i64 E]) ∧ Hid (E ≠ 0 ∨ (E = 0 ∧ Truth l asked V H)) := by
    rcases hc with ⟨E, hE, he⟩ | ⟨v, h, ht, he⟩
    · exact ⟨E, 0, ⟨#[]⟩, false, he, Or.inl hE⟩
    · exact ⟨0, SEQ, v, h, he, Or.inr ⟨rfl, ht⟩⟩
  obtain ⟨W8, hW8, X8, B8⟩ : ∃ W8, w7.alloc (.cells #[.int .i64 n0, .string V, .bool H] 34) = W8 ∧ Blk W8 w7.heap.size #[.int .i64 n0, .string V, .bool H] 34 ∧ Below w7.heap.size w7 W8 := ⟨_, rfl, blk_new _ _ _ _ rfl, by go_grown⟩
  have XS8 := Blk.below (Blk.off2 HX6.out G7.off (by omega) (by omega)) B8
  have XC8 := Blk.below (Blk.off2 HXC6.out G7.off (by omega) (by omega)) B8
  have t0 : W8.cell? ⟨w.heap.size, 0, none⟩ = some (.slice a l.length cap) := XS8.cell rfl
  have HL8 : Hid _ := (Rcs.off2 HL6.out HB6.out G7.off).below B8
  have HLO8 : Hid _ := (Rcs.off2 HLO6.out HB6.out G7.off).below B8
  have HAt : Hid _ := refAt_calls _ l asked W8 HL8.out (by omega)
  have HB8 : Hid _ := G7.book.below B8
  have HR8 : Hid _ := RootOf.ext G7.ext HR6.out
  have l7 := G7.len
  have HX8 : Hid _ := X8
  have HXS8 : Hid _ := XS8
  have HXC8 : Hid _ := XC8
  have b8 := chain b7 B8
  have z8 : w3.heap.size < w7.heap.size := by have := G7.off.size; omega
  have zl8 := Blk.lt X8
  clear X8 XS8 XC8 q0 q1 q2 q3 HTo HL6 HLO6 HB6 o6 HX6 HXC6 b7 b6 B8 G7 hc HR6
  go_wp2_with fail
  refine Calls.mono HAt.out ?_
  rintro e w9 ⟨rfl, hat⟩
  obtain ⟨kx, rfl, HAT⟩ : ∃ kx : Int, e = .returned (.int .i64 kx) ∧ Hid ((kx = -1 ∧ (E ≠ 0 ∨ (E = 0 ∧ H = false)) ∧ ∀ m ∈ l, m.key ≠ asked) ∨ ∃ (kk : Nat) (m : Rc), kx = kk ∧ l[kk]? = some m ∧ m.key = asked ∧ (E ≠ 0 ∨ (E = 0 ∧ H = true ∧ V = m.dat))) := by
    rcases hat with ⟨rfl, hn⟩ | ⟨kk, m, rfl, hm, hkk⟩
    · refine ⟨-1, rfl, Or.inl ⟨rfl, ?_, hn⟩⟩
      rcases HC.out with h | ⟨h, ht⟩
      · exact Or.inl h
      · rcases ht with ⟨h1, h2, _⟩ | ⟨_, m, hm, hk, _⟩
        · exact Or.inr ⟨h, h1⟩
        · exact absurd hk (hn m hm)
    · refine ⟨kk, rfl, Or.inr ⟨kk, m, rfl, hm, hkk, ?_⟩⟩
      have hmm : m ∈ l := List.mem_of_getElem? hm
      rcases HC.out with h | ⟨h, ht⟩
      · exact Or.inl h
      · rcases ht with ⟨_, _, h2⟩ | ⟨h1, n, hn, hk2, hv⟩
        · exact absurd hkk (h2 m hmm)
        · refine Or.inr ⟨h, h1, ?_⟩
          rw [← hv, rising_uniq HRi.out hmm hn (hkk.trans hk2.symm)]
  clear hat HAt HC
  go_upto_region 12 with fail
  go_cut [88] (fun v wx => v = .bool false ∧ Below w9.heap.size w9 wx)
  case first =>
    have g1 : w9.cell? ⟨w7.heap.size, 1, none⟩ = some (.string V) := Blk.cell HX8.out rfl
    have g2 : w9.cell? ⟨w7.heap.size, 2, none⟩ = some (.bool H) := Blk.cell HX8.out rfl
    by_cases hE : E = 0
    · subst hE
      rcases HAT.out with ⟨rfl, hc, _⟩ | ⟨kk, m, rfl, hm, _, hc⟩
      · obtain rfl : H = false := by rcases hc with h | h; exact absurd rfl h; exact h.2
        clear hc HX8 HXS8 HXC8 HL8 HLO8 HB8 HR8 HAT hd hd2
        go_wp2_with fail
        go_quiet (fail)
        go_wp2_with fail
        go_meet
        exact ⟨rfl, below_drewN _ _ _⟩
      · obtain ⟨rfl, rfl⟩ : H = true ∧ V = m.dat := by rcases hc with h | h; exact absurd rfl h; exact h.2
        obtain ⟨hkl, hme⟩ := List.getElem?_eq_some_iff.1 hm
        obtain ⟨ga, off, rfl, v2⟩ : ∃ ga off, a = some ⟨ga, off, none⟩ ∧ w9.cell? ⟨ga, off + kk * 2 + 1, none⟩ = some (.string m.dat) := by
          rcases HL8.out with ⟨_, h0⟩ | ⟨g, off, c, e, hx⟩
          · rw [h0] at hkl; simp at hkl
          · simp only [Value.slice.injEq] at e
            have := (hx kk hkl).2.1
            rw [hme] at this
            exact ⟨g, off, e.1, this⟩
        have d0 : decide ((kk : Int) < 0) = false := decide_eq_false (by omega)
        have d00 : decide ((0 : Int) ≤ (kk : Int)) = true := decide_eq_true (by omega)
        have d1 : (kk : Int) < (l.length : Int) := by omega
        have d2 : (0 : Int) ≤ (kk : Int) := by omega
        have nq : (m.dat.toList != m.dat.toList) = false := by simp
        have nq2 : (m.dat.toList == m.dat.toList) = true := by simp
        clear hc hm hme HX8 HXS8 HXC8 HL8 HLO8 HB8 HR8 HAT hd hd2
        go_wp2_with fail
        go_quiet (fail)
        go_wp2_with fail
        go_meet
        exact ⟨rfl, below_drewN _ _ _⟩
    · have d0 : decide (E = 0) = false := decide_eq_false hE
      have d0' : (E == 0) = false := d0
      clear HX8 HXS8 HXC8 HL8 HLO8 HB8 HR8 HAT hd hd2
      go_wp2_with fail
      go_quiet (fail)
      go_wp2_with fail
      go_meet
      exact ⟨rfl, below_drewN _ _ _⟩
  case rest =>
    rename World => w10
    obtain ⟨rfl, hcut⟩ := hcut
    have hT7 : T7.length ≤ 150000 := by omega
    have z10 := hcut.size
    have HP : Hid _ := proveRecs_calls _ lo asked w10 (Rcs.below HLO8.out hcut) (by omega) (HB8.out.below hcut) (by omega) (by omega)
    have b10 := chain b8 hcut
    go_wp2_with fail
    refine Calls.mono HP.out ?_
    rintro e w11 P11
    obtain ⟨E2, cnt, g, nn, cc, T11, rfl, HP2⟩ : ∃ (E2 cnt : Int) (g : Option Addr) (nn cc : Nat) (T11 : List ByteArray), e = .returned (.tuple #[.agg #[.int .i64 cnt, .slice g nn cc], .int .i64 E2]) ∧ Hid (Book w11 p b x y T11 S6 ∧ Off2 x y w10 w11 ∧ Ext T7 T11 ∧ T11.length ≤ 200000 ∧ (E2 ≠ 0 ∨ (E2 = 0 ∧ ∃ q2 : Pf, q2.cnt = cnt ∧ pfOk q2 = true ∧ Pts w11 (.slice g nn cc) q2.paths))) := by
      have hB10 := HB8.out.below hcut
      by_cases r2 : riseR lo = 0
      · cases hk2 : isK asked
        · obtain ⟨he, b11⟩ := P11.field r2 hk2
          exact ⟨14, 0, none, 0, 0, T7, he, hB10.below b11, Off2.of_below b11, Ext.refl _, by omega, Or.inl (by decide)⟩
        · obtain ⟨rr, Lp, ls, T5, pv, cv, hlv, hsp, hpo, he, ho, hss, G5⟩ := P11.good r2 hk2
          obtain ⟨hn4, hzz⟩ := riseR_ok r2
          have hl5 := G5.len
          have hoks : ∀ q ∈ Lp, ptOk q.1 = true := fun q hq => by
            obtain ⟨i, hi⟩ := hpo.each q.1 (List.mem_map.2 ⟨q, hq, rfl⟩)
            exact (hi.ok hlv hn4 hzz).1
          exact ⟨0, lo.length, pv, Lp.length, cv, T5, he, G5.book, G5.off, G5.ext, by omega, Or.inr ⟨rfl, ⟨lo.length, Lp.map Prod.fst⟩, rfl, (pfFits_parts (hpo.fits hlv hn4 hzz)).1, (ptsC_own ho hss hoks).1⟩⟩
      · obtain ⟨he, b11⟩ := P11.bad r2
        exact ⟨riseR lo, 0, none, 0, 0, T7, he, hB10.below b11, Off2.of_below b11, Ext.refl _, by omega, Or.inl r2⟩
    clear P11 HP
    obtain ⟨W12, hW12, X12, B12⟩ : ∃ W12, w11.alloc (.cells #[.int .i64 cnt, .slice g nn cc] 45) = W12 ∧ Blk W12 w11.heap.size #[.int .i64 cnt, .slice g nn cc] 45 ∧ Below w11.heap.size w11 W12 := ⟨_, rfl, blk_new _ _ _ _ rfl, by go_grown⟩
    have b11 : Below w.heap.size w w11 := HP2.out.2.1.below (by omega) (by omega) b10 b10.size
    have z11 := HP2.out.2.1.size
    have HOs : Hid _ := fun wx => ofSigned_ref MB wx hms
    rw [hofs] at HOs
    unfold sgAns Sg.val at HOs
    have HOf : Hid (∀ wx, Calls Tryz.prog 14 #[.string M.body] wx fun e w' => ∃ (g : Option Addr) (n c : Nat), e = .returned (.tuple #[.agg #[.int .i64 13, .int .i64 0, .int .i64 SEQ, .int .i64 0, .int .i64 0, .string r, .string tq, .slice g n c], .int .i64 0]) ∧ w'.ownsRow wx.heap.size 49 3 (.slice g n c) ML.length (sgCells ML) ∧ Below wx.heap.size wx w') := fun wx => by
      have := of_ref M.body wx hmb
      rw [hofb] at this
      refine this.mono ?_
      rintro e w' ⟨lv, rfl, ho, hb⟩
      obtain ⟨g, c, rfl⟩ := sgs_of_own' ho
      exact ⟨g, _, c, rfl, ho, hb⟩
    go_wp2_with fail
    refine Calls.mono (HOs.out _) ?_
    rintro e w13 ⟨rfl, b13⟩
    obtain ⟨W14, hW14, X14, B14⟩ : ∃ W14, w13.alloc (.cells #[.int .i64 M.frm, .string M.body, .string M.sig] 49) = W14 ∧ Blk W14 w13.heap.size #[.int .i64 M.frm, .string M.body, .string M.sig] 49 ∧ Below w13.heap.size w13 W14 := ⟨_, rfl, blk_new _ _ _ _ rfl, by go_grown⟩
    have m1 : W14.cell? ⟨w13.heap.size, 1, none⟩ = some (.string M.body) := X14.cell rfl
    clear X14
    go_wp2_with fail
    refine Calls.mono (HOf.out _) ?_
    rintro e w15 ⟨g5, n5, c5, rfl, ho5, b15⟩
    obtain ⟨W16, hW16, X16, B16⟩ : ∃ W16, w15.alloc (.cells #[.int .i64 13, .int .i64 0, .int .i64 SEQ, .int .i64 0, .int .i64 0, .string r, .string tq, .slice g5 n5 c5] 54) = W16 ∧ Blk W16 w15.heap.size #[.int .i64 13, .int .i64 0, .int .i64 SEQ, .int .i64 0, .int .i64 0, .string r, .string tq, .slice g5 n5 c5] 54 ∧ Below w15.heap.size w15 W16 := ⟨_, rfl, blk_new _ _ _ _ rfl, by go_grown⟩
    have b1116 := chain (chain (chain (chain B12 b13) B14) b15) B16
    have b16 := chain b11 b1116
    clear m1 HOs HOf hofs hofb hms hmb
    by_cases hE2 : E2 = 0
    · subst hE2
      obtain ⟨hB11, o11, x11, hT11, hq2⟩ := HP2.out
      obtain ⟨q2, rfl, hok2, hpts⟩ : ∃ q2 : Pf, q2.cnt = cnt ∧ pfOk q2 = true ∧ Pts w11 (.slice g nn cc) q2.paths := by
        rcases hq2 with h | ⟨_, h⟩
        · exact absurd rfl h
        · exact h
      obtain ⟨t2, ht2⟩ : ∃ t2 : ByteArray, ⟨(pfB q2).toArray⟩ = t2 := ⟨_, rfl⟩
      have htz : t2.size ≤ 12020 := by rw [← ht2]; exact pfB_len hok2
      have hpr : proofR q2 = #[.string t2, .int .i64 0] := by unfold proofR; rw [if_pos hok2, ht2]
      have HPr : Hid _ := proof_ref q2 (.slice g nn cc) W16 (hpts.below b1116)
      rw [hpr] at HPr
      unfold Pf.val at HPr
      have z1216 := chain (chain (chain b13 B14) b15) B16
      have p0 : W16.cell? ⟨w11.heap.size, 0, none⟩ = some (.int .i64 q2.cnt) := Blk.cell (Blk.below X12 z1216) rfl
      have p1 : W16.cell? ⟨w11.heap.size, 1, none⟩ = some (.slice g nn cc) := Blk.cell (Blk.below X12 z1216) rfl
      have hright := pr_right SEQ r t2 ML ⟨by omega, by omega, by rw [← hSEQ]; exact Int.mul_tmod_right 4 (1 + sq)⟩ hrz (by omega) (by omega) hmo
      rw [if_neg (fun e => by rw [e] at hml; simp at hml; omega)] at hright
      have he2 : byE (prB SEQ r t2 ML) = 0 := byE_len hright (by have := pr_len SEQ r t2 ML hrz.2 (by omega) (by omega); omega)
      obtain ⟨hs1, hs2⟩ := seal_sgM S6 1 (prB SEQ r t2 ML) (by decide) he2
      have hlt11 := hB11.lts
      have z1115 : w11.heap.size ≤ w15.heap.size := by have := (chain (chain (chain B12 b13) B14) b15).size; omega
      have hR11 := RootOf.ext x11 HR8.out
      have HV2 : Hid _ := fun (wx : World) (h3 : Book wx p b x y T11 (note S6 (1, byS (prB SEQ r ⟨(pfB q2).toArray⟩ ML)))) => HTo2.out T11 q2 S6 wx hR11 hok2 hT11 (by rw [ht2]; exact he2) (by omega) HKps.out h3
      rw [ht2] at HV2
      have HSe : Hid _ := fun (wx : World) (hx : Book wx p b x y T11 S6) (hl : Sgs wx (.slice g5 n5 c5) ML) => seal_calls 1 (prB SEQ r t2 ML) g5 n5 c5 wx hx (by omega) (by show r.size ≤ maxLen; unfold maxLen; omega) (by show t2.size ≤ maxLen; unfold maxLen; omega) (by show ML.length < _; omega) hl
      rw [hs1, hs2] at HSe
      have hM2ok := sgM_ok S6 1 (prB SEQ r t2 ML) (by decide)
      generalize sgM S6 1 (prB SEQ r t2 ML) = M2 at *
      generalize note S6 ((1 : Int), byS (prB SEQ r t2 ML)) = S2 at *
      have HOne : Hid _ := fun wx => one_ref M2 wx hM2ok
      unfold Sg.val at HOne
      generalize (⟨(sgB M2).toArray⟩ : ByteArray) = MB2 at *
      unfold prB Bd.val Sg.val at HSe
      have HX10 : Hid _ := Blk.below HX8.out hcut
      have HXS10 : Hid _ := Blk.below HXS8.out hcut
      have HXC10 : Hid _ := Blk.below HXC8.out hcut
      have HB10 : Hid _ := HB8.out.below hcut
      have HB16 : Hid _ := hB11.below b1116
      have HO16 : Hid (Off2 x y w10 W16) := o11.trans (Off2.of_below b1116)
      have HX16 : Hid _ := X16
      have HOw : Hid _ := ho5
      have HGs : Hid ((Tryz.prog.info? 49).map (·.size) = some (#[.int .i64 M2.frm, .string M2.body, .string M2.sig] : Array Value).size) := infoSg3
      have HGb : Hid ((Tryz.prog.info? 54).map (·.size) = some (#[.int .i64 13, .int .i64 0, .int .i64 SEQ, .int .i64 0, .int .i64 0, .string r, .string t2, .slice g5 n5 c5] : Array Value).size) := infoBody
      have hz15 := Blk.lt X16
      clear X12 X16 ho5 HX8 HXS8 HXC8 HB8 HL8 HLO8 HP2 hq2 hpts hpr hright he2 hs1 hs2 hM2ok hR11 HR8 HTo2 hB11 o11 x11 hok2 hmo hmbs ht2 z1216 b1116
      go_wp2_with fail
      refine Calls.mono HPr.out ?_
      rintro e w17 ⟨rfl, b17⟩
      have X17 := Blk.below HX16.out b17
      have c6 : w17.cell? ⟨w15.heap.size, 6, none⟩ = some (.string tq) := X17.cell rfl
      have fz : w17.frozen? ⟨w15.heap.size, 6, none⟩ = false := X17.frozen
      obtain ⟨W18, hW18, X18, hO18⟩ : ∃ W18, w17.setCell ⟨w15.heap.size, 6, none⟩ (.string t2) = W18 ∧ Blk W18 w15.heap.size #[.int .i64 13, .int .i64 0, .int .i64 SEQ, .int .i64 0, .int .i64 0, .string r, .string t2, .slice g5 n5 c5] 54 ∧ Off w15.heap.size w17 W18 := ⟨_, rfl, X17.set 6 (.string t2), Off.setCell (Off.refl _ _) (p := ⟨w15.heap.size, 6, none⟩) rfl _⟩
      have hB18 : Book W18 p b x y T11 S6 := (HB16.out.below b17).grown hO18.by ⟨by simp; omega, by simp; omega, by simp; omega, by simp; omega⟩
      have ho18 := (own_below (own_below HOw.out B16) b17).kept hO18.by (Or.inr (fun e => by have := ((show w15.ownsRow W14.heap.size 49 3 (.slice g5 n5 c5) ML.length (sgCells ML) from HOw.out).lt _ e).2; omega))
      have hsg18 : Sgs W18 (.slice g5 n5 c5) ML := sgs_of_own ho18 HMls.out
      have o18 : Off2 x y w10 W18 := off2_grown (HO16.out.trans (Off2.of_below b17)) hO18.by (fun k hk => by simp at hk; omega)
      have HS18 : Hid _ := HSe.out W18 hB18 hsg18
      clear X17 HSe hsg18 ho18 hO18 p0 p1 HOw HPr
      go_wp2_with ((with_reducible refine rd_row (ty := 54) X18 Tryz.underlying54 rfl HGb.out ?_ ?_); rfl)
      refine Calls.mono HS18.out ?_
      rintro e w19 ⟨rfl, K19, o19⟩
      obtain ⟨W20, hW20, X20, B20⟩ : ∃ W20, w19.alloc (.cells #[.int .i64 M2.frm, .string M2.body, .string M2.sig] 49) = W20 ∧ Blk W20 w19.heap.size #[.int .i64 M2.frm, .string M2.body, .string M2.sig] 49 ∧ Below w19.heap.size w19 W20 := ⟨_, rfl, blk_new _ _ _ _ rfl, by go_grown⟩
      have HB20 : Hid _ := K19.below B20
      have HO20 : Hid (Off2 x y w10 W20) := o18.trans (o19.trans (Off2.of_below B20))
      have y0 : W20.cell? ⟨w19.heap.size, 0, none⟩ = some (.int .i64 M2.frm) := X20.cell rfl
      have y1 : W20.cell? ⟨w19.heap.size, 1, none⟩ = some (.string M2.body) := X20.cell rfl
      have y2 : W20.cell? ⟨w19.heap.size, 2, none⟩ = some (.string M2.sig) := X20.cell rfl
      have XC20 := Blk.off2 HXC10.out HO20.out (by omega) (by omega)
      have u0 : W20.cell? ⟨w3.heap.size, 0, none⟩ = some (.int .i64 f) := XC20.cell rfl
      have u1 : W20.cell? ⟨w3.heap.size, 1, none⟩ = some (.int .i64 3) := XC20.cell rfl
      have u2 : W20.cell? ⟨w3.heap.size, 2, none⟩ = some (.int .i64 2) := XC20.cell rfl
      have u3 : W20.cell? ⟨w3.heap.size, 3, none⟩ = some (.int .i64 5) := XC20.cell rfl
      have z19 : w10.heap.size ≤ w19.heap.size := by have := o18.size; have := o19.size; omega
      clear X20 XC20 K19 o18 o19 X18 hB18 HS18 HX16 HB16 HO16 HGb hW18 c6 fz
      go_upto_region 22 with fail
      go_cut [17] (fun v wx => ∃ (E3 n3 : Int) (V3 : ByteArray) (H3 : Bool), v = .int .i64 E3 ∧ (E3 ≠ 0 ∨ (E3 = 0 ∧ Truth l asked V3 H3)) ∧ Blk wx w7.heap.size #[.int .i64 n3, .string V3, .bool H3] 34 ∧ Blk wx w.heap.size #[.slice a l.length cap, .int .i64 seq0, .int .i64 certs, .int .i64 spoil] 24 ∧ Below w.heap.size w wx)
      case first =>
        refine wp_region_held_drew (S := fun W => W.cell? ⟨w3.heap.size, 0, none⟩ = some (.int .i64 f) ∧ W.cell? ⟨w3.heap.size, 1, none⟩ = some (.int .i64 3) ∧ W.cell? ⟨w3.heap.size, 2, none⟩ = some (.int .i64 2) ∧ W.cell? ⟨w3.heap.size, 3, none⟩ = some (.int .i64 5) ∧ W.cell? ⟨w19.heap.size, 0, none⟩ = some (.int .i64 M2.frm) ∧ W.cell? ⟨w19.heap.size, 1, none⟩ = some (.string M2.body) ∧ W.cell? ⟨w19.heap.size, 2, none⟩ = some (.string M2.sig)) (by kernel_rfl) ⟨u0, u1, u2, u3, y0, y1, y2⟩ (fun hS => ?_)
        refine wpAnyH_take (i := 0) (v := .agg #[.int .i64 f, .int .i64 3, .int .i64 2, .int .i64 5]) rfl (by kernel_rfl) (by kernel_rfl) (by kernel_rfl) (fun _ _ _ h => h) (Or.inl ⟨by kernel_rfl, fun w hS => by obtain ⟨s0, s1, s2, s3, s4, s5, s6⟩ := hS; go_simp⟩) hS ?_
        refine wpAnyH_take (i := 1) (v := .pointer (some ⟨p, 0, none⟩)) rfl (by kernel_rfl) (by kernel_rfl) (by kernel_rfl) (fun _ _ _ h => h) (Or.inl ⟨by kernel_rfl, fun w hS => by obtain ⟨s0, s1, s2, s3, s4, s5, s6⟩ := hS; go_simp⟩) hS ?_
        refine wpAnyH_take (i := 2) (v := .string asked) rfl (by kernel_rfl) (by kernel_rfl) (by kernel_rfl) (fun _ _ _ h => h) (Or.inl ⟨by kernel_rfl, fun w hS => by obtain ⟨s0, s1, s2, s3, s4, s5, s6⟩ := hS; go_simp⟩) hS ?_
        refine wpAnyH_take (i := 3) (v := .agg #[.int .i64 M2.frm, .string M2.body, .string M2.sig]) rfl (by kernel_rfl) (by kernel_rfl) (by kernel_rfl) (fun _ _ _ h => h) (Or.inl ⟨by kernel_rfl, fun w hS => by obtain ⟨s0, s1, s2, s3, s4, s5, s6⟩ := hS; go_simp⟩) hS ?_
        refine wpAnyH_ready (rs := [4]) (by kernel_rfl) (by simp) ?_
        refine readyH_callK (i := 4) rfl (by kernel_rfl) (fun K hK => ?_)
        go_simp
        refine Calls.mono (HOne.out _) ?_
        rintro e w21 ⟨rfl, b21⟩
        have bd21 : Below W20.heap.size W20 w21 := chain (Below.refl _ _).drew b21
        refine hK.out _ _ ⟨keepCell b21 hS.1, keepCell b21 hS.2.1, keepCell b21 hS.2.2.1, keepCell b21 hS.2.2.2.1, keepCell b21 hS.2.2.2.2.1, keepCell b21 hS.2.2.2.2.2.1, keepCell b21 hS.2.2.2.2.2.2⟩ (fun hS => ?_)
        clear hK
        refine wpAnyH_ready (rs := [5]) (by kernel_rfl) (by simp) ?_
        refine readyH_callK (i := 5) rfl (by kernel_rfl) (fun K hK => ?_)
        go_simp
        refine Calls.mono (HV2.out _ (HB20.out.below bd21)) ?_
        rintro e w22 ⟨⟨T22, G22⟩, hc3⟩
        obtain ⟨E3, n3, V3, H3, rfl, HC3⟩ : ∃ (E3 n3 : Int) (V3 : ByteArray) (H3 : Bool), e = .returned (.tuple #[.agg #[.int .i64 n3, .string V3, .bool H3], .int .i64 E3]) ∧ Hid (E3 ≠ 0 ∨ (E3 = 0 ∧ Truth l asked V3 H3)) := by
          rcases hc3 with ⟨E, hE, he⟩ | ⟨v, h, ht, he⟩
          · exact ⟨E, 0, ⟨#[]⟩, false, he, Or.inl hE⟩
          · exact ⟨0, SEQ, v, h, he, Or.inr ⟨rfl, ht⟩⟩
        have o22 : Off2 x y w10 w22 := HO20.out.trans ((Off2.of_below bd21).trans G22.off)
        have X22 : Blk w22 w7.heap.size #[.int .i64 n0, .string V, .bool H] 34 := Blk.off2 HX10.out o22 (by omega) (by omega)
        have hB21 := HB20.out.below bd21
        refine hK.out _ _ ⟨keepCell2 hB21 G22.off hS.1, keepCell2 hB21 G22.off hS.2.1, keepCell2 hB21 G22.off hS.2.2.1, keepCell2 hB21 G22.off hS.2.2.2.1, keepCell2 hB21 G22.off hS.2.2.2.2.1, keepCell2 hB21 G22.off hS.2.2.2.2.2.1, keepCell2 hB21 G22.off hS.2.2.2.2.2.2⟩ (fun hS => ?_)
        clear hK
        refine wpAnyH_take (i := 6) (v := .tuple #[.agg #[.int .i64 n3, .string V3, .bool H3], .int .i64 E3]) rfl (by kernel_rfl) (by kernel_rfl) (by kernel_rfl) (fun _ _ _ h => h) (Or.inl ⟨by kernel_rfl, fun w hS => by obtain ⟨s0, s1, s2, s3, s4, s5, s6⟩ := hS; go_simp⟩) hS ?_
        refine wpAnyH_take (i := 7) (v := .agg #[.int .i64 n3, .string V3, .bool H3]) rfl (by kernel_rfl) (by kernel_rfl) (by kernel_rfl) (fun _ _ _ h => h) (Or.inl ⟨by kernel_rfl, fun w hS => by obtain ⟨s0, s1, s2, s3, s4, s5, s6⟩ := hS; go_simp⟩) hS ?_
        refine wpAnyH_take (i := 8) (v := .int .i64 E3) rfl (by kernel_rfl) (by kernel_rfl) (by kernel_rfl) (fun _ _ _ h => h) (Or.inl ⟨by kernel_rfl, fun w hS => by obtain ⟨s0, s1, s2, s3, s4, s5, s6⟩ := hS; go_simp⟩) hS ?_
        have z22 := o22.size
        refine wpAnyH_ready (rs := [9]) (by kernel_rfl) (by simp) ?_
        refine readyH_rowC 9 rfl rfl rfl rfl w7.heap.size #[.int .i64 n3, .string V3, .bool H3] (by kernel_rfl) (by kernel_rfl) 34 #[.int .i64 n0, .string V, .bool H] X22 (infoLight3 _ _ _) rfl (lgOne _ _ _) ⟨keepRow hS.1 (by simp; omega), keepRow hS.2.1 (by simp; omega), keepRow hS.2.2.1 (by simp; omega), keepRow hS.2.2.2.1 (by simp; omega), keepRow hS.2.2.2.2.1 (by simp; omega), keepRow hS.2.2.2.2.2.1 (by simp; omega), keepRow hS.2.2.2.2.2.2 (by simp; omega)⟩ (fun hS => ?_)
        refine wpAnyH_take (i := 10) (v := .int .i64 E3) rfl (by kernel_rfl) (by kernel_rfl) (by kernel_rfl) (fun _ _ _ h => h) (Or.inl ⟨by kernel_rfl, fun w hS => by obtain ⟨s0, s1, s2, s3, s4, s5, s6⟩ := hS; go_simp⟩) hS ?_
        refine wpAnyH_done (by kernel_rfl) ?_ _
        obtain ⟨W23, hW23, X23, hoth, _⟩ := setRow_named X22 #[.int .i64 n3, .string V3, .bool H3]
        rw [hW23]
        go_wp2_with fail
        go_meet
        have hBl22 : Below w.heap.size w w22 := o22.below (by omega) (by omega) b10 b10.size
        refine ⟨E3, n3, V3, H3, rfl, HC3.out, X23, ?_, ?_⟩
        · rw [← hW23]; exact Blk.setRowOther (Blk.off2 HXS10.out o22 (by omega) (by omega)) _ (by omega)
        · exact below_row hBl22 hW23 (by omega)
      case rest =>
        rename World => w23
        obtain ⟨E3, n3, V3, H3, rfl, hc3, X23, XS23, b23⟩ := hcut
        have hL23 : Rcs w23 (.slice a l.length cap) l := Rcs.below HL0.out b23
        by_cases hE3 : E3 = 0
        · subst hE3
          have htr : Truth l asked V3 H3 := by
            rcases hc3 with h | h
            · exact absurd rfl h
            · exact h.2
          rcases HAT.out with ⟨rfl, _, hn⟩ | ⟨kk, m, rfl, hm, hkk, _⟩
          · obtain ⟨rfl, rfl⟩ : H3 = false ∧ V3 = ⟨#[]⟩ := by
              rcases htr with ⟨h1, h2, _⟩ | ⟨_, m, hm, hk, _⟩
              · exact ⟨h1, h2⟩
              · exact absurd hk (hn m hm)
            have v0 : w23.cell? ⟨w7.heap.size, 2, none⟩ = some (.bool false) := X23.cell rfl
            clear hc3 htr hn HAT X23 XS23 hL23 HX10 HXS10 HXC10 HB10 HRi HL0
            go_wp2_with fail
            refine wp_region_held_drew (S := fun W => W.cell? ⟨w7.heap.size, 2, none⟩ = some (.bool false) ∧ True ∧ True) (by kernel_rfl) ⟨v0, trivial, trivial⟩ (fun hS => ?_)
            refine wpAnyH_take (i := 0) (v := .int .i64 0) rfl (by kernel_rfl) (by kernel_rfl) (by kernel_rfl) (fun _ _ _ h => h) (Or.inl ⟨by kernel_rfl, fun w hS => by obtain ⟨s0, s1, s2⟩ := hS; go_simp⟩) hS ?_
            refine wpAnyH_take (i := 1) (v := .bool false) rfl (by kernel_rfl) (by kernel_rfl) (by kernel_rfl) (fun _ _ _ h => h) (Or.inl ⟨by kernel_rfl, fun w hS => by obtain ⟨s0, s1, s2⟩ := hS; go_simp⟩) hS ?_
            refine wpAnyH_take (i := 2) (v := .bool false) rfl (by kernel_rfl) (by kernel_rfl) (by kernel_rfl) (fun _ _ _ h => h) (Or.inl ⟨by kernel_rfl, fun w hS => by obtain ⟨s0, s1, s2⟩ := hS; go_simp⟩) hS ?_
            refine wpAnyH_take (i := 3) (v := .pointer (some ⟨w7.heap.size, 2, none⟩)) rfl (by kernel_rfl) (by kernel_rfl) (by kernel_rfl) (fun _ _ _ h => h) (Or.inl ⟨by kernel_rfl, fun w hS => by obtain ⟨s0, s1, s2⟩ := hS; go_simp⟩) hS ?_
            refine wpAnyH_take (i := 4) (v := .bool false) rfl (by kernel_rfl) (by kernel_rfl) (by kernel_rfl) (fun _ _ _ h => h) (Or.inl ⟨by kernel_rfl, fun w hS => by obtain ⟨s0, s1, s2⟩ := hS; go_simp⟩) hS ?_
            refine wpAnyH_take (i := 5) (v := .int .i64 (-1)) rfl (by kernel_rfl) (by kernel_rfl) (by kernel_rfl) (fun _ _ _ h => h) (Or.inl ⟨by kernel_rfl, fun w hS => by obtain ⟨s0, s1, s2⟩ := hS; go_simp⟩) hS ?_
            refine wpAnyH_take (i := 6) (v := .bool false) rfl (by kernel_rfl) (by kernel_rfl) (by kernel_rfl) (fun _ _ _ h => h) (Or.inl ⟨by kernel_rfl, fun w hS => by obtain ⟨s0, s1, s2⟩ := hS; go_simp⟩) hS ?_
            refine wpAnyH_take (i := 7) (v := .bool true) rfl (by kernel_rfl) (by kernel_rfl) (by kernel_rfl) (fun _ _ _ h => h) (Or.inl ⟨by kernel_rfl, fun w hS => by obtain ⟨s0, s1, s2⟩ := hS; go_simp⟩) hS ?_
            refine wpAnyH_take (i := 8) (v := .bool true) rfl (by kernel_rfl) (by kernel_rfl) (by kernel_rfl) (fun _ _ _ h => h) (Or.inl ⟨by kernel_rfl, fun w hS => by obtain ⟨s0, s1, s2⟩ := hS; go_simp⟩) hS ?_
            refine wpAnyH_take (i := 9) (v := .int .i64 (-1)) rfl (by kernel_rfl) (by kernel_rfl) (by kernel_rfl) (fun _ _ _ h => h) (Or.inl ⟨by kernel_rfl, fun w hS => by obtain ⟨s0, s1, s2⟩ := hS; go_simp⟩) hS ?_
            refine wpAnyH_take (i := 10) (v := .bool true) rfl (by kernel_rfl) (by kernel_rfl) (by kernel_rfl) (fun _ _ _ h => h) (Or.inl ⟨by kernel_rfl, fun w hS => by obtain ⟨s0, s1, s2⟩ := hS; go_simp⟩) hS ?_
            refine wpAnyH_take (i := 11) (v := .bool true) rfl (by kernel_rfl) (by kernel_rfl) (by kernel_rfl) (fun _ _ _ h => h) (Or.inl ⟨by kernel_rfl, fun w hS => by obtain ⟨s0, s1, s2⟩ := hS; go_simp⟩) hS ?_
            refine wpAnyH_take (i := 12) (v := undef) rfl (by kernel_rfl) (by kernel_rfl) (by kernel_rfl) (fun _ _ _ h => h) (Or.inr ⟨by kernel_rfl, rfl⟩) hS ?_
            refine wpAnyH_take (i := 13) (v := undef) rfl (by kernel_rfl) (by kernel_rfl) (by kernel_rfl) (fun _ _ _ h => h) (Or.inr ⟨by kernel_rfl, rfl⟩) hS ?_
            refine wpAnyH_take (i := 14) (v := undef) rfl (by kernel_rfl) (by kernel_rfl) (by kernel_rfl) (fun _ _ _ h => h) (Or.inr ⟨by kernel_rfl, rfl⟩) hS ?_
            refine wpAnyH_take (i := 15) (v := undef) rfl (by kernel_rfl) (by kernel_rfl) (by kernel_rfl) (fun _ _ _ h => h) (Or.inr ⟨by kernel_rfl, rfl⟩) hS ?_
            refine wpAnyH_take (i := 16) (v := undef) rfl (by kernel_rfl) (by kernel_rfl) (by kernel_rfl) (fun _ _ _ h => h) (Or.inr ⟨by kernel_rfl, rfl⟩) hS ?_
            refine wpAnyH_take (i := 17) (v := undef) rfl (by kernel_rfl) (by kernel_rfl) (by kernel_rfl) (fun _ _ _ h => h) (Or.inr ⟨by kernel_rfl, rfl⟩) hS ?_
            refine wpAnyH_take (i := 18) (v := undef) rfl (by kernel_rfl) (by kernel_rfl) (by kernel_rfl) (fun _ _ _ h => h) (Or.inr ⟨by kernel_rfl, rfl⟩) hS ?_
            refine wpAnyH_take (i := 19) (v := undef) rfl (by kernel_rfl) (by kernel_rfl) (by kernel_rfl) (fun _ _ _ h => h) (Or.inr ⟨by kernel_rfl, rfl⟩) hS ?_
            refine wpAnyH_take (i := 20) (v := undef) rfl (by kernel_rfl) (by kernel_rfl) (by kernel_rfl) (fun _ _ _ h => h) (Or.inr ⟨by kernel_rfl, rfl⟩) hS ?_
            refine wpAnyH_take (i := 21) (v := .bool true) rfl (by kernel_rfl) (by kernel_rfl) (by kernel_rfl) (fun _ _ _ h => h) (Or.inl ⟨by kernel_rfl, fun w hS => by obtain ⟨s0, s1, s2⟩ := hS; go_simp⟩) hS ?_
            refine wpAnyH_take (i := 22) (v := .bool true) rfl (by kernel_rfl) (by kernel_rfl) (by kernel_rfl) (fun _ _ _ h => h) (Or.inl ⟨by kernel_rfl, fun w hS => by obtain ⟨s0, s1, s2⟩ := hS; go_simp⟩) hS ?_
            refine wpAnyH_take (i := 23) (v := .bool true) rfl (by kernel_rfl) (by kernel_rfl) (by kernel_rfl) (fun _ _ _ h => h) (Or.inl ⟨by kernel_rfl, fun w hS => by obtain ⟨s0, s1, s2⟩ := hS; go_simp⟩) hS ?_
            refine wpAnyH_take (i := 24) (v := .bool true) rfl (by kernel_rfl) (by kernel_rfl) (by kernel_rfl) (fun _ _ _ h => h) (Or.inl ⟨by kernel_rfl, fun w hS => by obtain ⟨s0, s1, s2⟩ := hS; go_simp⟩) hS ?_
            refine wpAnyH_ready (rs := [25]) (by kernel_rfl) (by simp) ?_
            refine readyH_callK (i := 25) rfl (by kernel_rfl) (fun K hK => ?_)
            go_simp
            refine Calls.mono (HAw.out _) ?_
            rintro e w25 ⟨rfl, b25⟩
            refine hK.out _ _ ⟨keepCell b25 hS.1, trivial, trivial⟩ (fun hS => ?_)
            clear hK
            refine wpAnyH_take (i := 26) (v := .bool true) rfl (by kernel_rfl) (by kernel_rfl) (by kernel_rfl) (fun _ _ _ h => h) (Or.inl ⟨by kernel_rfl, fun w hS => by obtain ⟨s0, s1, s2⟩ := hS; go_simp⟩) hS ?_
            refine wpAnyH_take (i := 27) (v := .bool true) rfl (by kernel_rfl) (by kernel_rfl) (by kernel_rfl) (fun _ _ _ h => h) (Or.inl ⟨by kernel_rfl, fun w hS => by obtain ⟨s0, s1, s2⟩ := hS; go_simp⟩) hS ?_
            refine wpAnyH_done (by kernel_rfl) ?_ _
            go_wp2
            go_ret
            exact ⟨rfl, chain (chain b23 (Below.refl _ _).drew) b25⟩
          · have hmm : m ∈ l := List.mem_of_getElem? hm
            obtain ⟨rfl, rfl⟩ : H3 = true ∧ V3 = m.dat := by
              rcases htr with ⟨_, _, h2⟩ | ⟨h1, n, hn, hk2, hv⟩
              · exact absurd hkk (h2 m hmm)
              · refine ⟨h1, ?_⟩
                rw [← hv, rising_uniq HRi.out hmm hn (hkk.trans hk2.symm)]
            obtain ⟨hkl, hme⟩ := List.getElem?_eq_some_iff.1 hm
            obtain ⟨ga, off, rfl, v3⟩ : ∃ ga off, a = some ⟨ga, off, none⟩ ∧ w23.cell? ⟨ga, off + kk * 2 + 1, none⟩ = some (.string m.dat) := by
              rcases hL23 with ⟨_, h0⟩ | ⟨g, off, c, e, hx⟩
              · rw [h0] at hkl; simp at hkl
              · simp only [Value.slice.injEq] at e
                have := (hx kk hkl).2.1
                rw [hme] at this
                exact ⟨g, off, e.1, this⟩
            have d0 : decide ((kk : Int) < 0) = false := decide_eq_false (by omega)
            have d00 : decide ((0 : Int) ≤ (kk : Int)) = true := decide_eq_true (by omega)
            have d1 : (kk : Int) < (l.length : Int) := by omega
            have d2 : (0 : Int) ≤ (kk : Int) := by omega
            have v0 : w23.cell? ⟨w7.heap.size, 2, none⟩ = some (.bool true) := X23.cell rfl
            have v1 : w23.cell? ⟨w7.heap.size, 1, none⟩ = some (.string m.dat) := X23.cell rfl
            have v2 : w23.cell? ⟨w.heap.size, 0, none⟩ = some (.slice (some ⟨ga, off, none⟩) l.length cap) := XS23.cell rfl
            clear hc3 htr HAT X23 XS23 hL23 HX10 HXS10 HXC10 HB10 HRi HL0 hm hme hmm hkk
            go_wp2_with fail
            refine wp_region_held_drew (S := fun W => W.cell? ⟨w7.heap.size, 2, none⟩ = some (.bool true) ∧ W.cell? ⟨w7.heap.size, 1, none⟩ = some (.string m.dat) ∧ W.cell? ⟨w.heap.size, 0, none⟩ = some (.slice (some ⟨ga, off, none⟩) l.length cap) ∧ W.cell? ⟨ga, off + kk * 2 + 1, none⟩ = some (.string m.dat)) (by kernel_rfl) ⟨v0, v1, v2, v3⟩ (fun hS => ?_)
            refine wpAnyH_take (i := 0) (v := .int .i64 0) rfl (by kernel_rfl) (by kernel_rfl) (by kernel_rfl) (fun _ _ _ h => h) (Or.inl ⟨by kernel_rfl, fun w hS => by obtain ⟨s0, s1, s2, s3⟩ := hS; go_simp⟩) hS ?_
            refine wpAnyH_take (i := 1) (v := .bool false) rfl (by kernel_rfl) (by kernel_rfl) (by kernel_rfl) (fun _ _ _ h => h) (Or.inl ⟨by kernel_rfl, fun w hS => by obtain ⟨s0, s1, s2, s3⟩ := hS; go_simp⟩) hS ?_
            refine wpAnyH_take (i := 2) (v := .bool false) rfl (by kernel_rfl) (by kernel_rfl) (by kernel_rfl) (fun _ _ _ h => h) (Or.inl ⟨by kernel_rfl, fun w hS => by obtain ⟨s0, s1, s2, s3⟩ := hS; go_simp⟩) hS ?_
            refine wpAnyH_take (i := 3) (v := .pointer (some ⟨w7.heap.size, 2, none⟩)) rfl (by kernel_rfl) (by kernel_rfl) (by kernel_rfl) (fun _ _ _ h => h) (Or.inl ⟨by kernel_rfl, fun w hS => by obtain ⟨s0, s1, s2, s3⟩ := hS; go_simp⟩) hS ?_
            refine wpAnyH_take (i := 4) (v := .bool true) rfl (by kernel_rfl) (by kernel_rfl) (by kernel_rfl) (fun _ _ _ h => h) (Or.inl ⟨by kernel_rfl, fun w hS => by obtain ⟨s0, s1, s2, s3⟩ := hS; go_simp⟩) hS ?_
            refine wpAnyH_take (i := 5) (v := .int .i64 kk) rfl (by kernel_rfl) (by kernel_rfl) (by kernel_rfl) (fun _ _ _ h => h) (Or.inl ⟨by kernel_rfl, fun w hS => by obtain ⟨s0, s1, s2, s3⟩ := hS; go_simp⟩) hS ?_
            refine wpAnyH_take (i := 6) (v := .bool true) rfl (by kernel_rfl) (by kernel_rfl) (by kernel_rfl) (fun _ _ _ h => h) (Or.inl ⟨by kernel_rfl, fun w hS => by obtain ⟨s0, s1, s2, s3⟩ := hS; go_simp⟩) hS ?_
            refine wpAnyH_take (i := 7) (v := .bool true) rfl (by kernel_rfl) (by kernel_rfl) (by kernel_rfl) (fun _ _ _ h => h) (Or.inl ⟨by kernel_rfl, fun w hS => by obtain ⟨s0, s1, s2, s3⟩ := hS; go_simp⟩) hS ?_
            refine wpAnyH_take (i := 8) (v := .bool true) rfl (by kernel_rfl) (by kernel_rfl) (by kernel_rfl) (fun _ _ _ h => h) (Or.inl ⟨by kernel_rfl, fun w hS => by obtain ⟨s0, s1, s2, s3⟩ := hS; go_simp⟩) hS ?_
            refine wpAnyH_take (i := 9) (v := .int .i64 kk) rfl (by kernel_rfl) (by kernel_rfl) (by kernel_rfl) (fun _ _ _ h => h) (Or.inl ⟨by kernel_rfl, fun w hS => by obtain ⟨s0, s1, s2, s3⟩ := hS; go_simp⟩) hS ?_
            refine wpAnyH_take (i := 10) (v := .bool false) rfl (by kernel_rfl) (by kernel_rfl) (by kernel_rfl) (fun _ _ _ h => h) (Or.inl ⟨by kernel_rfl, fun w hS => by obtain ⟨s0, s1, s2, s3⟩ := hS; go_simp⟩) hS ?_
            refine wpAnyH_take (i := 11) (v := .bool false) rfl (by kernel_rfl) (by kernel_rfl) (by kernel_rfl) (fun _ _ _ h => h) (Or.inl ⟨by kernel_rfl, fun w hS => by obtain ⟨s0, s1, s2, s3⟩ := hS; go_simp⟩) hS ?_
            refine wpAnyH_take (i := 12) (v := .pointer (some ⟨w7.heap.size, 1, none⟩)) rfl (by kernel_rfl) (by kernel_rfl) (by kernel_rfl) (fun _ _ _ h => h) (Or.inl ⟨by kernel_rfl, fun w hS => by obtain ⟨s0, s1, s2, s3⟩ := hS; go_simp⟩) hS ?_
            refine wpAnyH_take (i := 13) (v := .string m.dat) rfl (by kernel_rfl) (by kernel_rfl) (by kernel_rfl) (fun _ _ _ h => h) (Or.inl ⟨by kernel_rfl, fun w hS => by obtain ⟨s0, s1, s2, s3⟩ := hS; go_simp⟩) hS ?_
            refine wpAnyH_take (i := 14) (v := .pointer (some ⟨w.heap.size, 0, none⟩)) rfl (by kernel_rfl) (by kernel_rfl) (by kernel_rfl) (fun _ _ _ h => h) (Or.inl ⟨by kernel_rfl, fun w hS => by obtain ⟨s0, s1, s2, s3⟩ := hS; go_simp⟩) hS ?_
            refine wpAnyH_take (i := 15) (v := .slice (some ⟨ga, off, none⟩) l.length cap) rfl (by kernel_rfl) (by kernel_rfl) (by kernel_rfl) (fun _ _ _ h => h) (Or.inl ⟨by kernel_rfl, fun w hS => by obtain ⟨s0, s1, s2, s3⟩ := hS; go_simp⟩) hS ?_
            refine wpAnyH_take (i := 16) (v := .int .i64 kk) rfl (by kernel_rfl) (by kernel_rfl) (by kernel_rfl) (fun _ _ _ h => h) (Or.inl ⟨by kernel_rfl, fun w hS => by obtain ⟨s0, s1, s2, s3⟩ := hS; go_simp⟩) hS ?_
            refine wpAnyH_take (i := 17) (v := .pointer (some ⟨ga, off + kk * 2, none⟩)) rfl (by kernel_rfl) (by kernel_rfl) (by kernel_rfl) (fun _ _ _ h => h) (Or.inl ⟨by kernel_rfl, fun w hS => by obtain ⟨s0, s1, s2, s3⟩ := hS; go_simp⟩) hS ?_
            refine wpAnyH_take (i := 18) (v := .pointer (some ⟨ga, off + kk * 2 + 1, none⟩)) rfl (by kernel_rfl) (by kernel_rfl) (by kernel_rfl) (fun _ _ _ h => h) (Or.inl ⟨by kernel_rfl, fun w hS => by obtain ⟨s0, s1, s2, s3⟩ := hS; go_simp⟩) hS ?_
            refine wpAnyH_take (i := 19) (v := .string m.dat) rfl (by kernel_rfl) (by kernel_rfl) (by kernel_rfl) (fun _ _ _ h => h) (Or.inl ⟨by kernel_rfl, fun w hS => by obtain ⟨s0, s1, s2, s3⟩ := hS; go_simp⟩) hS ?_
            refine wpAnyH_take (i := 20) (v := .bool true) rfl (by kernel_rfl) (by kernel_rfl) (by kernel_rfl) (fun _ _ _ h => h) (Or.inl ⟨by kernel_rfl, fun w hS => by obtain ⟨s0, s1, s2, s3⟩ := hS; go_simp⟩) hS ?_
            refine wpAnyH_take (i := 21) (v := .bool true) rfl (by kernel_rfl) (by kernel_rfl) (by kernel_rfl) (fun _ _ _ h => h) (Or.inl ⟨by kernel_rfl, fun w hS => by obtain ⟨s0, s1, s2, s3⟩ := hS; go_simp⟩) hS ?_
            refine wpAnyH_take (i := 22) (v := .bool true) rfl (by kernel_rfl) (by kernel_rfl) (by kernel_rfl) (fun _ _ _ h => h) (Or.inl ⟨by kernel_rfl, fun w hS => by obtain ⟨s0, s1, s2, s3⟩ := hS; go_simp⟩) hS ?_
            refine wpAnyH_take (i := 23) (v := .bool true) rfl (by kernel_rfl) (by kernel_rfl) (by kernel_rfl) (fun _ _ _ h => h) (Or.inl ⟨by kernel_rfl, fun w hS => by obtain ⟨s0, s1, s2, s3⟩ := hS; go_simp⟩) hS ?_
            refine wpAnyH_take (i := 24) (v := .bool true) rfl (by kernel_rfl) (by kernel_rfl) (by kernel_rfl) (fun _ _ _ h => h) (Or.inl ⟨by kernel_rfl, fun w hS => by obtain ⟨s0, s1, s2, s3⟩ := hS; go_simp⟩) hS ?_
            refine wpAnyH_ready (rs := [25]) (by kernel_rfl) (by simp) ?_
            refine readyH_callK (i := 25) rfl (by kernel_rfl) (fun K hK => ?_)
            go_simp
            refine Calls.mono (HAw.out _) ?_
            rintro e w25 ⟨rfl, b25⟩
            refine hK.out _ _ ⟨keepCell b25 hS.1, keepCell b25 hS.2.1, keepCell b25 hS.2.2.1, keepCell b25 hS.2.2.2⟩ (fun hS => ?_)
            clear hK
            refine wpAnyH_take (i := 26) (v := .bool true) rfl (by kernel_rfl) (by kernel_rfl) (by kernel_rfl) (fun _ _ _ h => h) (Or.inl ⟨by kernel_rfl, fun w hS => by obtain ⟨s0, s1, s2, s3⟩ := hS; go_simp⟩) hS ?_
            refine wpAnyH_take (i := 27) (v := .bool true) rfl (by kernel_rfl) (by kernel_rfl) (by kernel_rfl) (fun _ _ _ h => h) (Or.inl ⟨by kernel_rfl, fun w hS => by obtain ⟨s0, s1, s2, s3⟩ := hS; go_simp⟩) hS ?_
            refine wpAnyH_done (by kernel_rfl) ?_ _
            go_wp2
            go_ret
            exact ⟨rfl, chain (chain b23 (Below.refl _ _).drew) b25⟩
        · have d0 : decide (E3 = 0) = false := decide_eq_false hE3
          have d0' : (E3 == 0) = false := d0
          have d0n : (E3 != 0) = true := by rw [bne, d0']; rfl
          clear hc3 HAT X23 XS23 hL23 HX10 HXS10 HXC10 HB10 HRi HL0
          go_wp2_with fail
          refine wp_region_held_drew (S := fun W => True ∧ True ∧ True) (by kernel_rfl) ⟨trivial, trivial, trivial⟩ (fun hS => ?_)
          refine wpAnyH_take (i := 0) (v := .int .i64 E3) rfl (by kernel_rfl) (by kernel_rfl) (by kernel_rfl) (fun _ _ _ h => h) (Or.inl ⟨by kernel_rfl, fun w hS => by obtain ⟨s0, s1, s2⟩ := hS; go_simp⟩) hS ?_
          refine wpAnyH_take (i := 1) (v := .bool true) rfl (by kernel_rfl) (by kernel_rfl) (by kernel_rfl) (fun _ _ _ h => h) (Or.inl ⟨by kernel_rfl, fun w hS => by obtain ⟨s0, s1, s2⟩ := hS; go_simp⟩) hS ?_
          refine wpAnyH_take (i := 2) (v := .bool true) rfl (by kernel_rfl) (by kernel_rfl) (by kernel_rfl) (fun _ _ _ h => h) (Or.inl ⟨by kernel_rfl, fun w hS => by obtain ⟨s0, s1, s2⟩ := hS; go_simp⟩) hS ?_
          refine wpAnyH_take (i := 3) (v := undef) rfl (by kernel_rfl) (by kernel_rfl) (by kernel_rfl) (fun _ _ _ h => h) (Or.inr ⟨by kernel_rfl, rfl⟩) hS ?_
          refine wpAnyH_take (i := 4) (v := undef) rfl (by kernel_rfl) (by kernel_rfl) (by kernel_rfl) (fun _ _ _ h => h) (Or.inr ⟨by kernel_rfl, rfl⟩) hS ?_
          refine wpAnyH_take (i := 5) (v := undef) rfl (by kernel_rfl) (by kernel_rfl) (by kernel_rfl) (fun _ _ _ h => h) (Or.inr ⟨by kernel_rfl, rfl⟩) hS ?_
          refine wpAnyH_take (i := 6) (v := undef) rfl (by kernel_rfl) (by kernel_rfl) (by kernel_rfl) (fun _ _ _ h => h) (Or.inr ⟨by kernel_rfl, rfl⟩) hS ?_
          refine wpAnyH_take (i := 7) (v := undef) rfl (by kernel_rfl) (by kernel_rfl) (by kernel_rfl) (fun _ _ _ h => h) (Or.inr ⟨by kernel_rfl, rfl⟩) hS ?_
          refine wpAnyH_take (i := 8) (v := undef) rfl (by kernel_rfl) (by kernel_rfl) (by kernel_rfl) (fun _ _ _ h => h) (Or.inr ⟨by kernel_rfl, rfl⟩) hS ?_
          refine wpAnyH_take (i := 9) (v := undef) rfl (by kernel_rfl) (by kernel_rfl) (by kernel_rfl) (fun _ _ _ h => h) (Or.inr ⟨by kernel_rfl, rfl⟩) hS ?_
          refine wpAnyH_take (i := 10) (v := undef) rfl (by kernel_rfl) (by kernel_rfl) (by kernel_rfl) (fun _ _ _ h => h) (Or.inr ⟨by kernel_rfl, rfl⟩) hS ?_
          refine wpAnyH_take (i := 11) (v := undef) rfl (by kernel_rfl) (by kernel_rfl) (by kernel_rfl) (fun _ _ _ h => h) (Or.inr ⟨by kernel_rfl, rfl⟩) hS ?_
          refine wpAnyH_take (i := 12) (v := undef) rfl (by kernel_rfl) (by kernel_rfl) (by kernel_rfl) (fun _ _ _ h => h) (Or.inr ⟨by kernel_rfl, rfl⟩) hS ?_
          refine wpAnyH_take (i := 13) (v := undef) rfl (by kernel_rfl) (by kernel_rfl) (by kernel_rfl) (fun _ _ _ h => h) (Or.inr ⟨by kernel_rfl, rfl⟩) hS ?_
          refine wpAnyH_take (i := 14) (v := undef) rfl (by kernel_rfl) (by kernel_rfl) (by kernel_rfl) (fun _ _ _ h => h) (Or.inr ⟨by kernel_rfl, rfl⟩) hS ?_
          refine wpAnyH_take (i := 15) (v := undef) rfl (by kernel_rfl) (by kernel_rfl) (by kernel_rfl) (fun _ _ _ h => h) (Or.inr ⟨by kernel_rfl, rfl⟩) hS ?_
          refine wpAnyH_take (i := 16) (v := undef) rfl (by kernel_rfl) (by kernel_rfl) (by kernel_rfl) (fun _ _ _ h => h) (Or.inr ⟨by kernel_rfl, rfl⟩) hS ?_
          refine wpAnyH_take (i := 17) (v := undef) rfl (by kernel_rfl) (by kernel_rfl) (by kernel_rfl) (fun _ _ _ h => h) (Or.inr ⟨by kernel_rfl, rfl⟩) hS ?_
          refine wpAnyH_take (i := 18) (v := undef) rfl (by kernel_rfl) (by kernel_rfl) (by kernel_rfl) (fun _ _ _ h => h) (Or.inr ⟨by kernel_rfl, rfl⟩) hS ?_
          refine wpAnyH_take (i := 19) (v := undef) rfl (by kernel_rfl) (by kernel_rfl) (by kernel_rfl) (fun _ _ _ h => h) (Or.inr ⟨by kernel_rfl, rfl⟩) hS ?_
          refine wpAnyH_take (i := 20) (v := undef) rfl (by kernel_rfl) (by kernel_rfl) (by kernel_rfl) (fun _ _ _ h => h) (Or.inr ⟨by kernel_rfl, rfl⟩) hS ?_
          refine wpAnyH_take (i := 21) (v := undef) rfl (by kernel_rfl) (by kernel_rfl) (by kernel_rfl) (fun _ _ _ h => h) (Or.inr ⟨by kernel_rfl, rfl⟩) hS ?_
          refine wpAnyH_take (i := 22) (v := undef) rfl (by kernel_rfl) (by kernel_rfl) (by kernel_rfl) (fun _ _ _ h => h) (Or.inr ⟨by kernel_rfl, rfl⟩) hS ?_
          refine wpAnyH_take (i := 23) (v := .bool true) rfl (by kernel_rfl) (by kernel_rfl) (by kernel_rfl) (fun _ _ _ h => h) (Or.inl ⟨by kernel_rfl, fun w hS => by obtain ⟨s0, s1, s2⟩ := hS; go_simp⟩) hS ?_
          refine wpAnyH_take (i := 24) (v := .bool true) rfl (by kernel_rfl) (by kernel_rfl) (by kernel_rfl) (fun _ _ _ h => h) (Or.inl ⟨by kernel_rfl, fun w hS => by obtain ⟨s0, s1, s2⟩ := hS; go_simp⟩) hS ?_
          refine wpAnyH_ready (rs := [25]) (by kernel_rfl) (by simp) ?_
          refine readyH_callK (i := 25) rfl (by kernel_rfl) (fun K hK => ?_)
          go_simp
          refine Calls.mono (HAw.out _) ?_
          rintro e w25 ⟨rfl, b25⟩
          refine hK.out _ _ ⟨trivial, trivial, trivial⟩ (fun hS => ?_)
          clear hK
          refine wpAnyH_take (i := 26) (v := .bool true) rfl (by kernel_rfl) (by kernel_rfl) (by kernel_rfl) (fun _ _ _ h => h) (Or.inl ⟨by kernel_rfl, fun w hS => by obtain ⟨s0, s1, s2⟩ := hS; go_simp⟩) hS ?_
          refine wpAnyH_take (i := 27) (v := .bool true) rfl (by kernel_rfl) (by kernel_rfl) (by kernel_rfl) (fun _ _ _ h => h) (Or.inl ⟨by kernel_rfl, fun w hS => by obtain ⟨s0, s1, s2⟩ := hS; go_simp⟩) hS ?_
          refine wpAnyH_done (by kernel_rfl) ?_ _
          go_wp2
          go_ret
          exact ⟨rfl, chain (chain b23 (Below.refl _ _).drew) b25⟩
    · have d0 : decide (E2 = 0) = false := decide_eq_false hE2
      have d0' : (E2 == 0) = false := d0
      clear HX8 HXS8 HXC8 HL8 HLO8 HB8 HR8 HAT hd hd2 HP2 X12 X16 ho5
      go_wp2_with fail
      refine (HAw.out _).mono ?_
      rintro e w17 ⟨rfl, b17⟩
      go_wp2
      go_ret
      exact ⟨rfl, chain b16 b17⟩
end Go.Proofs.YtocphdikppeijaaGreat

namespace Go.Proofs.YtocphdikppeijaaGreat
open Go.ChangeShapes Go.WideShapes Go.ChangeAt Go.RowKit
open Go.ChangeMaps (open_string shut_string)
set_option linter.unusedVariables false

set_option maxRecDepth 100000 in
theorem clientOther_lifted (os : Os) (started : os.Started) (H : Type) (enc : TypeId × Value → H) :
    ReturnsInHanded {} Tryz.checked os 4 .any (Rows.clientOtherSpec.pre6 enc Tryz.prog Tryz.f4 Rows.clientOtherRow.domain false) (Rows.clientOtherSpec.post enc Tryz.prog Tryz.f4 false true false false) := by
  refine returnsInHanded_of_change_sized (C := Tryz.checked) own_knob started (by kernel_rfl) Tryz.func4
    (ChangeSpec.witness6 (enc := enc) (C := Tryz.checked) false ⟨#[], #[.int .i64 0, .agg #[.slice none 0 0, .int .i64 0, .int .i64 0, .int .i64 0], .slice none 0 0, .string .empty, .string .empty], []⟩ 8 (by kernel_rfl) (by kernel_rfl) (by kernel_rfl) (by kernel_rfl)) ?_
  intro W base args ds gs before hval0 hW hcnd hsz0 _
  have hval : ∀ (j : Nat) t v, Tryz.f4.params[j]? = some t → args[j]? = some v → Value.okWide Tryz.prog W .any base t v := hval0
  have hW' := hW
  obtain ⟨p, q, hA0, hV, rfl, hfz, hnd⟩ := hW
  have hA : DataW.TrodAll enc Tryz.prog W 0 (fun _ => true) true Tryz.f4.params.toList args.toList ds p := hA0
  rw [Tryz.params4] at hA hval
  obtain ⟨v0, vs0, d0, ds0, p0, q0, hargs, rfl, rfl, h0, r0⟩ := trodAll_cons hA
  obtain ⟨v1, vs1, d1, ds1, p1, q1, rfl, rfl, rfl, h1, r1⟩ := trodAll_cons r0
  obtain ⟨v2, vs2, d2, ds2, p2, q2, rfl, rfl, rfl, h2, r2⟩ := trodAll_cons r1
  obtain ⟨v3, vs3, d3, ds3, p3, q3, rfl, rfl, rfl, h3, r3⟩ := trodAll_cons r2
  obtain ⟨v4, vs4, d4, ds4, p4, q4, rfl, rfl, rfl, h4, r4⟩ := trodAll_cons r3
  obtain ⟨rfl, rfl, rfl⟩ := trodAll_nil r4
  obtain rfl : args = #[v0, v1, v2, v3, v4] := by cases args; simp_all
  obtain ⟨rfl, rfl⟩ := trodVars_none hV
  obtain ⟨a0, rfl, rfl, rfl, w0⟩ := open_int Tryz.underlying3 (hval 0 3 v0 rfl rfl) h0
  obtain ⟨s3, rfl, rfl, rfl, mx3⟩ := open_string Tryz.underlying9 (hval 3 9 v3 rfl rfl) h3
  obtain ⟨s4, rfl, rfl, rfl, mx4⟩ := open_string Tryz.underlying9 (hval 4 9 v4 rfl rfl) h4
  clear hA0
  try simp only [List.append_nil] at hW'
  try simp only [List.nil_append] at hW'
  have hsz1 : (DataW.weightsEach Tryz.prog [3, 24, 22, 9, 9] [.lit (.int .i64 a0), d1, d2, .lit (.string s3.data.toList), .lit (.string s4.data.toList)]).all (· ≤ reachBytes) = true := hsz0
  have hszb1 : (DataW.weights Tryz.prog 24 d1).all (· ≤ reachBytes) = true := List.all_eq_true.2 fun m hm => List.all_eq_true.1 hsz1 m (DataW.weights_mem_each (j := 1) (t := 24) (d := d1) rfl rfl m hm)
  have hlt1 : ∀ x ∈ p1, x.block < W.heap.size := fun x hx => by simpa using hW'.lt x (by simp [hx])
  obtain ⟨l1, sa1, sc1, sq1, sn1, sp1, rfl, hl1⟩ := open_state (hval 1 24 v1 rfl rfl) h1
  have hszb2 : (DataW.weights Tryz.prog 22 d2).all (· ≤ reachBytes) = true := List.all_eq_true.2 fun m hm => List.all_eq_true.1 hsz1 m (DataW.weights_mem_each (j := 2) (t := 22) (d := d2) rfl rfl m hm)
  have hlt2 : ∀ x ∈ p2, x.block < W.heap.size := fun x hx => by simpa using hW'.lt x (by simp [hx])
  have hcell2 : v2.cells = #[v2] := by
    obtain ⟨p', n', c', rfl⟩ := okWide_slice Tryz.underlying22 (hval 2 22 v2 rfl rfl)
    rfl
  obtain ⟨l2, hl2, zl2⟩ := open_rcs hcell2 h2 hszb2 hlt2
  have z3 : s3.size ≤ 140737488351232 := by
    have h := sized_string hsz1 (j := 3) rfl rfl
    rw [Array.length_toList] at h
    exact h
  have z4 : s4.size ≤ 140737488351232 := by
    have h := sized_string hsz1 (j := 4) rfl rfl
    rw [Array.length_toList] at h
    exact h
  refine (clientOther_calls a0 sa1 sc1 l1 sq1 sn1 sp1 v2 l2 s3 s4 W hl1 hl2).mono fun e W' ⟨he, hg⟩ => ?_
  subst he
  have harg := trodAll_cons_mk (shut_int Tryz.underlying3 w0) (trodAll_cons_mk (Below.trod prog_laid (by kernel_rfl) (of_decide_eq_true (by kernel_rfl)) h1 hg hlt1) (trodAll_cons_mk (Below.trod prog_laid (by kernel_rfl) (of_decide_eq_true (by kernel_rfl)) h2 hg hlt2) (trodAll_cons_mk (shut_string Tryz.underlying9 mx3) (trodAll_cons_mk (shut_string Tryz.underlying9 mx4) (trodAll_mk0 (enc := enc) (P := Tryz.prog) (w := W') (base := 0) (spare := fun b => decide (b < W.heap.size)) (held := true))))))
  try simp only [List.append_nil] at harg
  try simp only [List.nil_append] at harg
  exact ⟨_, rfl, _, _, _, [], p1 ++ p2, [], hW', trodAll_cons_mk (shut_bool Tryz.underlying4 _) trodAll_mk0,
    harg, rfl,
    hg.frame _, fun h => by cases h⟩

theorem clientOther_holds : Rows.ClientOtherSaid :=
  OpenClaim.holds_of_wide 4 Tryz.f4 rfl rfl rfl rfl rfl rfl rfl ⟨rfl, rfl, rfl, rfl, rfl⟩ rfl rfl rfl rfl rfl (by kernel_rfl) Tryz.func4 (by kernel_rfl)
    (of_decide_eq_true (by kernel_rfl)) (by unfold Func.isWrapper; first | (rw [if_pos (by decide +kernel)]; kernel_rfl) | (rw [if_neg (by decide +kernel)]; exact ⟨rfl, rfl⟩))
    (fun os started H enc _ => clientOther_lifted os started H enc)
#print axioms clientOther_holds
end Go.Proofs.YtocphdikppeijaaGreat
