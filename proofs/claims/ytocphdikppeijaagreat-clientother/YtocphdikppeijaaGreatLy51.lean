/- What a light client is shown: a proof of a key, signed and certified. -/
import Derived.Test.YtocphdikppeijaaGreatLy50
import Derived.Test.YtocphdikppeijaaGreatLy40
import Derived.Deep.DeepCutAuto
import Derived.Deep.CutBlock
namespace Go.Proofs.YtocphdikppeijaaGreat
open Go.RowKit
set_option linter.unusedSimpArgs false
set_option linter.unusedVariables false

variable {p b x y : Nat} {T : List ByteArray} {S : List (Int × ByteArray)}
theorem root_size {T : List ByteArray} {l : List Rc} {r : ByteArray} (h : RootOf T l r) : 1 ≤ r.size ∧ r.size ≤ 32 := by
  obtain ⟨_, _, _, _, _, rfl⟩ := h
  rw [dig_size]
  decide
theorem infoSg4 : (Tryz.prog.info? 49).map (fun i => (i.zero, i.size, i.bytes)) = some (some (.agg #[.int .i64 0, .string ⟨#[]⟩, .string ⟨#[]⟩]), 3, 40) := by kernel_rfl
theorem row_newC (W : World) (a b c : Value) (t : TypeId) : ∀ j u, [a, b, c][j]? = some u → (W.alloc (.cells #[a, b, c] t)).cell? ((⟨W.heap.size, 0, none⟩ : Addr).add j) = some u := by
  intro j u hj
  rw [Addr.add_mid, Nat.zero_add]
  exact (blk_new W W.heap.size #[a, b, c] t rfl).cell (by simpa using hj)
theorem shown_results {w' : World} {t : Array Value} {s g v : Value} (h0 : t.getD 8 undef = s) (h1 : t.getD 9 undef = g) (h2 : t.getD 10 undef = v) :
    (results Tryz.f7 t).run Tryz.prog w' = .ok (.tuple #[s, g, v]) w' := by
  simp only [Array.getD_eq_getD_getElem?] at h0 h1 h2
  simp [results, Tryz.results7, go_sem, h0, h1, h2]
theorem sgCells_snoc (l : List Sg) (m : Sg) : sgCells (l ++ [m]) = sgCells l ++ [.int .i64 m.frm, .string m.body, .string m.sig] := by simp [sgCells]
/-- Whose checkpoint is spoilt. -/
def spB (sp : Int) (i : Nat) : Bool := bits .and .i64 (sp / 2 ^ i) 1 == 1
def atC (sp seq : Int) (i : Nat) : Int := if spB sp i = true then seq + 4 else seq
/-- What is shown. -/
def ShownP (p b x y : Nat) (w : World) (f : Int) (L : List Rc) (SEQ : Int) (key : ByteArray) (e : Ending) (w' : World) : Prop :=
  (∃ s g S', e = .returned (.tuple #[.string s, .int .i64 g, .bool false]) ∧ (∃ T', Book w' p b x y T' S') ∧ Off2 x y w w') ∨
  ∃ (n : Nat) (A : Nat → Int) (r : ByteArray) (T' : List ByteArray) (q : Pf), riseR L = 0 ∧ isK key = true ∧ 1 ≤ n ∧ (n : Int) ≤ 3 * f + 1 ∧ (∀ i, A i = SEQ ∨ A i = SEQ + 4) ∧ RootOf T' L r ∧ pfFits q = true ∧ showsB q key = true ∧ LedAll T' q r ∧ T'.length ≤ 100000 ∧
    byE (prB SEQ r ⟨(pfB q).toArray⟩ (ckM r A [] n)) = 0 ∧
    e = .returned (.tuple #[.string ⟨(sgB (sgM (ckS r A [] n) 0 (prB SEQ r ⟨(pfB q).toArray⟩ (ckM r A [] n)))).toArray⟩, .int .i64 (forS A SEQ n).length, .bool true]) ∧
    Book w' p b x y T' (note (ckS r A [] n) (0, byS (prB SEQ r ⟨(pfB q).toArray⟩ (ckM r A [] n)))) ∧ Off2 x y w w'

set_option maxHeartbeats 20000000 in
set_option maxRecDepth 100000 in
theorem shown_calls (f : Int) (hf : 1 ≤ f ∧ f ≤ 4) (a : Option Addr) (cap : Nat) (L : List Rc) (seq0 certs spoil : Int) (key : ByteArray) (w : World) (h : Book w p b x y [] []) (hL : Rcs w (.slice a L.length cap) L) (hl : L.length ≤ 60) :
    Calls Tryz.prog 7 #[.pointer (some ⟨p, 0, none⟩), .int .i64 f, .agg #[.slice a L.length cap, .int .i64 seq0, .int .i64 certs, .int .i64 spoil], .string key] w (ShownP p b x y w f L (4 * (1 + arn seq0 100)) key) := by
  obtain ⟨iS, hS, hS0, hS1, hS2⟩ := info_parts infoSg4
  obtain ⟨W1, hW1, X1, B1, Z1⟩ : ∃ W1, w.alloc (.cells #[.slice a L.length cap, .int .i64 seq0, .int .i64 certs, .int .i64 spoil] 24) = W1 ∧ Blk W1 w.heap.size #[.slice a L.length cap, .int .i64 seq0, .int .i64 certs, .int .i64 spoil] 24 ∧ Below w.heap.size w W1 ∧ W1.heap.size = w.heap.size + 1 :=
    ⟨_, rfl, blk_new _ _ _ _ rfl, by go_grown, by simp⟩
  have c0 : W1.cell? ⟨w.heap.size, 0, none⟩ = some (.slice a L.length cap) := X1.cell rfl
  have hB1 := h.below B1
  have HR : Hid _ := root_calls _ L W1 (hL.below B1) (by omega) hB1 (by simp) (by simp)
  have HL1 : Hid _ := hL.below B1
  have hlt := h.lts
  have har := arn_range seq0 100 (by decide)
  have hac := arn_range certs (3 * f + 2) (by omega)
  have HA1 : Hid _ := fun wx => around_calls seq0 100 wx (by decide) (by decide)
  have HA2 : Hid _ := fun wx => around_calls certs (3 * f + 2) wx (by omega) (by omega)
  generalize arn seq0 100 = sq at *
  obtain ⟨n, hn⟩ : ∃ n : Nat, arn certs (3 * f + 2) = n := ⟨_, (Int.toNat_of_nonneg hac.1).symm⟩
  rw [hn] at HA2 hac
  have w1 : IntKind.i64.wrap (1 + sq) = 1 + sq := wrapC (by omega) (by omega)
  have w2 : IntKind.i64.wrap (4 * (1 + sq)) = 4 * (1 + sq) := wrapC (by omega) (by omega)
  have w3 : IntKind.i64.wrap (3 * f) = 3 * f := wrapC (by omega) (by omega)
  have w4 : IntKind.i64.wrap (3 * f + 2) = 3 * f + 2 := wrapC (by omega) (by omega)
  have HX1 : Hid _ := X1
  clear hn hL
  go_enter Tryz.func7, Tryz.ntmps7
  go_wp2_with fail
  refine Calls.mono HR.out ?_
  rintro e w3' P3
  by_cases r1 : riseR L = 0
  · obtain ⟨r, T3, rfl, R3, G3⟩ := P3.good r1
    have l3 := G3.len
    simp only [List.length_nil, Nat.zero_add] at l3
    have hL3 := Rcs.off2 HL1.out hB1 G3.off
    have X3 : Blk w3' w.heap.size #[.slice a L.length cap, .int .i64 seq0, .int .i64 certs, .int .i64 spoil] 24 := Blk.off2 HX1.out G3.off (by omega) (by omega)
    have d0 : w3'.cell? ⟨w.heap.size, 0, none⟩ = some (.slice a L.length cap) := X3.cell rfl
    have HP : Hid _ := proveRecs_calls _ L key w3' hL3 (by omega) G3.book (by simp) (by omega)
    have HX3 : Hid _ := X3
    have HG3 : Hid _ := G3
    have HR3 : Hid _ := R3
    clear P3 G3 R3 HR hL3 X3 HX1 HL1
    go_wp2_with fail
    refine Calls.mono HP.out ?_
    rintro e w5 P5
    cases hk' : isK key
    · obtain ⟨he, b5⟩ := P5.field r1 hk'
      obtain ⟨n0, q0, m0, cp0, rfl⟩ : ∃ (n0 : Int) (q0 : Option Addr) (m0 cp0 : Nat), e = .returned (.tuple #[.agg #[.int .i64 n0, .slice q0 m0 cp0], .int .i64 14]) := ⟨0, none, 0, 0, he⟩
      obtain ⟨W6, hW6, B6⟩ : ∃ W6, w5.alloc (.cells #[.int .i64 n0, .slice q0 m0 cp0] 45) = W6 ∧ Below w5.heap.size w5 W6 := ⟨_, rfl, by go_grown⟩
      have b56 := chain b5 B6
      have e1 : W6.cell? ⟨w.heap.size, 1, none⟩ = some (.int .i64 seq0) := Blk.cell (Blk.below HX3.out b56) rfl
      clear P5 HP he
      go_wp2_with fail
      refine (HA1.out _).mono ?_
      rintro e w7 ⟨rfl, rfl⟩
      go_wp2
      refine bodyPost_ret (v := .tuple #[.string ⟨#[]⟩, .int .i64 0, .bool false]) (shown_results rfl rfl rfl) rfl ?_
      exact Or.inl ⟨_, _, _, rfl, ⟨_, HG3.out.book.below b56⟩, (Off2.of_below B1).trans (HG3.out.off.trans (Off2.of_below b56))⟩
    · obtain ⟨rr, Lp, ls, T5, pv, cv, hlv, hsp, hpo, rfl, ho, hss, G5⟩ := P5.good r1 hk'
      have l5 := G5.len
      obtain ⟨hn4, hzz⟩ := riseR_ok r1
      have hfit := hpo.fits hlv hn4 hzz
      have hshow := hpo.shows hsp
      have hR5 := RootOf.ext G5.ext HR3.out
      have hled := hpo.led hlv hR5
      have hoks : ∀ q ∈ Lp, ptOk q.1 = true := fun q hq => by
        obtain ⟨i, hi⟩ := hpo.each q.1 (List.mem_map.2 ⟨q, hq, rfl⟩)
        exact (hi.ok hlv hn4 hzz).1
      have hpc := (ptsC_own ho hss hoks).1
      obtain ⟨Q, hQ⟩ : ∃ Q : Pf, (⟨L.length, Lp.map Prod.fst⟩ : Pf) = Q := ⟨_, rfl⟩
      have hQc : Q.cnt = L.length := by rw [← hQ]
      have hQp : Q.paths = Lp.map Prod.fst := by rw [← hQ]
      rw [hQ] at hfit hshow hled
      rw [← hQp] at hpc
      rw [← hQc]
      obtain ⟨W6, hW6, X6, B6, Z6⟩ : ∃ W6, w5.alloc (.cells #[.int .i64 Q.cnt, .slice pv Lp.length cv] 45) = W6 ∧ Blk W6 w5.heap.size #[.int .i64 Q.cnt, .slice pv Lp.length cv] 45 ∧ Below w5.heap.size w5 W6 ∧ W6.heap.size = w5.heap.size + 1 :=
        ⟨_, rfl, blk_new _ _ _ _ rfl, by go_grown, by simp⟩
      have HO5 : Hid (Off2 x y w W6) := (Off2.of_below B1).trans (HG3.out.off.trans (G5.off.trans (Off2.of_below B6)))
      have XS : Blk W6 w.heap.size #[.slice a L.length cap, .int .i64 seq0, .int .i64 certs, .int .i64 spoil] 24 := Blk.below (Blk.off2 HX3.out G5.off (by omega) (by omega)) B6
      have e1 : W6.cell? ⟨w.heap.size, 1, none⟩ = some (.int .i64 seq0) := Blk.cell XS rfl
      have hz5 : w.heap.size ≤ w5.heap.size := by have := B1.size; have := HG3.out.off.size; have := G5.off.size; omega
      have hB6 := G5.book.below B6
      have hz6 := HO5.out.size
      have z56 : w5.heap.size < W6.heap.size := by omega
      have HXS : Hid _ := XS
      have HX6 : Hid _ := X6
      have HB6 : Hid _ := hB6
      have HPts : Hid _ := hpc.below B6
      have HFIT : Hid _ := hfit
      have HSHOW : Hid _ := hshow
      have HLED : Hid _ := hled
      have HR5 : Hid _ := hR5
      have hrz := root_size hR5
      have hT5 : T5.length ≤ 100000 := by omega
      have hlt6 := hB6.lts
      obtain ⟨SEQ, hSEQ⟩ : ∃ SEQ, 4 * (1 + sq) = SEQ := ⟨_, rfl⟩
      have hsz : 0 < SEQ ∧ SEQ ≤ 400 ∧ SEQ.tmod 4 = 0 := by
        rw [← hSEQ]
        refine ⟨by omega, by omega, ?_⟩
        exact Int.mul_tmod_right 4 (1 + sq)
      rw [hSEQ] at w2 ⊢
      have w5' : IntKind.i64.wrap (SEQ + 4) = SEQ + 4 := wrapC (by omega) (by omega)
      have hAt : ∀ i, atC spoil SEQ i = SEQ ∨ atC spoil SEQ i = SEQ + 4 := fun i => by unfold atC; split <;> simp
      have hE : ∀ i, byE (ckB (atC spoil SEQ i) r) = 0 := fun i => by
        refine byE_len (ck_right _ r ?_ hrz) (by have := ck_len (atC spoil SEQ i) r hrz.2; omega)
        rcases hAt i with e | e
        · rw [e]; exact ⟨hsz.1, by omega, hsz.2.2⟩
        · rw [e]; refine ⟨by omega, by omega, ?_⟩
          rw [← hSEQ, show 4 * (1 + sq) + 4 = 4 * (2 + sq) by omega]
          exact Int.mul_tmod_right 4 (2 + sq)
      have HE : Hid _ := hE
      have HAT : Hid _ := hAt
      clear hE hAt P5 HP ho hss hoks hpo hsp hlv hpc hfit hshow hled hR5 X6 XS G5 HG3 HR3 HX3 hQ hQc hQp hzz hn4 l5 l3 hB6 hB1 h B6 B1 Z6
      go_wp2_with fail
      refine (HA1.out _).mono ?_
      rintro e w7 ⟨rfl, rfl⟩
      rename World => W6
      go_wp2_with fail
      go_loopw [16, 17, 18] (fun lv gd i wr => ∃ k : Nat, k ≤ n ∧ i = .int .i64 k ∧ gd = .int .i64 (forS (atC spoil SEQ) SEQ k).length ∧ Book wr p b x y T5 (ckS r (atC spoil SEQ) [] k) ∧ wr.ownsRow W6.heap.size 49 3 lv k (sgCells (ckM r (atC spoil SEQ) [] k)) ∧ Off2 x y W6 wr) (fun _ _ i _ => n - (intOf i).toNat)
      case atStart => exact ⟨0, Nat.zero_le _, rfl, rfl, HB6.out, World.ownsRow_nil _ _ _ _, Off2.refl _ _ _⟩
      case round =>
        obtain ⟨k, hk, rfl, rfl, K2, ho, o2⟩ := hrel
        have XS2 : Blk wr w.heap.size #[.slice a L.length cap, .int .i64 seq0, .int .i64 certs, .int .i64 spoil] 24 := Blk.off2 HXS.out o2 (by omega) (by omega)
        have e2 : wr.cell? ⟨w.heap.size, 2, none⟩ = some (.int .i64 certs) := Blk.cell XS2 rfl
        have e3 : wr.cell? ⟨w.heap.size, 3, none⟩ = some (.int .i64 spoil) := Blk.cell XS2 rfl
        have z2 := o2.size
        have hkl := K2.lts
        have hsl := ckS_len r (atC spoil SEQ) [] k
        simp only [List.length_nil, Nat.zero_add] at hsl
        by_cases hgo : k < n
        · have hdk : decide ((k : Int) < (n : Int)) = true := by simp only [decide_eq_true_eq]; omega
          have hsg := isSg_nat (show k < 256 by omega)
          clear XS2
          go_wp2_with fail
          refine (HA2.out _).mono ?_
          rintro e w8 ⟨rfl, rfl⟩
          rename World => w8
          obtain ⟨Bk, hBk⟩ : ∃ Bk, (bits .and .i64 (spoil / 2 ^ k) 1 == 1) = Bk := ⟨_, rfl⟩
          cases Bk
          · have hat : atC spoil SEQ k = SEQ := by unfold atC spB; rw [hBk]; rfl
            have hS1' : ckS r (atC spoil SEQ) [] (k + 1) = note (ckS r (atC spoil SEQ) [] k) ((k : Int), byS (ckB (SEQ) r)) := by rw [ckS, hat]
            have hM1' : sgCells (ckM r (atC spoil SEQ) [] (k + 1)) = sgCells (ckM r (atC spoil SEQ) [] k) ++ [.int .i64 (sgM (ckS r (atC spoil SEQ) [] k) k (ckB (SEQ) r)).frm, .string (sgM (ckS r (atC spoil SEQ) [] k) k (ckB (SEQ) r)).body, .string (sgM (ckS r (atC spoil SEQ) [] k) k (ckB (SEQ) r)).sig] := by rw [ckM, hat, sgCells_snoc]
            have hF1 : (forS (atC spoil SEQ) SEQ (k + 1)).length = (forS (atC spoil SEQ) SEQ k).length + 1 := by
              rw [forS_succ, hat, if_pos rfl]
              simp
            have hEk := HE.out k
            rw [hat] at hEk
            obtain ⟨hs1, hs2⟩ := seal_sgM (ckS r (atC spoil SEQ) [] k) k (ckB (SEQ) r) hsg hEk
            have HSe : Hid _ := seal_calls k (ckB (SEQ) r) none 0 0 w8 K2 (by omega) (by show r.size ≤ maxLen; unfold maxLen; omega) (show (⟨#[]⟩ : ByteArray).size ≤ maxLen by decide) (show ([] : List Sg).length < _ by decide) (Or.inl ⟨⟨_, _, rfl⟩, rfl⟩)
            rw [hs1, hs2] at HSe
            have HS1' : Hid _ := hS1'
            have HM1' : Hid _ := hM1'
            have HF1' : Hid _ := hF1
            have hfl : (forS (atC spoil SEQ) SEQ k).length ≤ k := by unfold forS; exact Nat.le_trans (List.length_filter_le _ _) (by simp)
            clear hS1' hM1' hF1 hs1 hs2 hEk hat
            generalize sgM (ckS r (atC spoil SEQ) [] k) k (ckB (SEQ) r) = M at *
            generalize note (ckS r (atC spoil SEQ) [] k) ((k : Int), byS (ckB (SEQ) r)) = S2 at *
            generalize sgCells (ckM r (atC spoil SEQ) [] k) = OC at *
            generalize (forS (atC spoil SEQ) SEQ k).length = gk at *
            unfold ckB Bd.val Sg.val at HSe
            have wgk : IntKind.i64.wrap ((gk : Int) + 1) = gk + 1 := wrapC (by omega) (by omega)
            go_wp2_with fail
            refine Calls.mono HSe.out ?_
            rintro e w9 ⟨rfl, K3, o3⟩
            obtain ⟨W10, hW10, XM, B10, Z10⟩ : ∃ W10, (w9.alloc (.cells #[.int .i64 M.frm, .string M.body, .string M.sig] 49)) = W10 ∧ Blk W10 w9.heap.size #[.int .i64 M.frm, .string M.body, .string M.sig] 49 ∧ Below w9.heap.size w9 W10 ∧ W10.heap.size = w9.heap.size + 1 :=
              ⟨_, rfl, blk_new _ _ _ _ rfl, by go_grown, by simp⟩
            have m0 : W10.cell? ⟨w9.heap.size, 0, none⟩ = some (.int .i64 M.frm) := XM.cell rfl
            have m1 : W10.cell? ⟨w9.heap.size, 1, none⟩ = some (.string M.body) := XM.cell rfl
            have m2 : W10.cell? ⟨w9.heap.size, 2, none⟩ = some (.string M.sig) := XM.cell rfl
            have oo := own_below (own_off2 K2 ho o3) B10
            have K4 := K3.below B10
            have o4 : Off2 x y W6 W10 := o2.trans (o3.trans (Off2.of_below B10))
            have z4 := o4.size
            have HZ10 : Hid _ := Z10
            clear HSe Z10
            go_wp2_with (at_builtin; refine wpList_append_own _ rfl _ _ 52 rfl W6.heap.size 49 iS (.agg #[.int .i64 0, .string ⟨#[]⟩, .string ⟨#[]⟩]) 3 40 Tryz.underlying52 hS hS0 hS1 hS2 rfl (by decide) _ _ _ rfl (oo.alloc _) ⟨W10.heap.size, 0, none⟩ 1 1 [.int .i64 M.frm, .string M.body, .string M.sig] rfl rfl ?c1 ?c2 ?c3 ?c4 ?c5 ?_)
            case c1 => exact row_newC _ _ _ _ _
            case c2 => intro u hu; simp at hu; rcases hu with rfl | rfl | rfl <;> rfl
            case c3 => unfold maxLen; omega
            case c4 => omega
            case c5 => simp; omega
            intro ov' w11 hown5 hgrow5 _
            have K5 : Book w11 p b x y T5 S2 := Book.grown (K4.below ((Below.refl _ _).alloc (Nat.le_refl _) _)) hgrow5 (K4.apart oo (by decide) (by decide))
            have o5 : Off2 x y W6 w11 := off2_grown (o4.trans (Off2.of_below ((Below.refl _ _).alloc (Nat.le_refl _) _))) hgrow5 (fun k hk => (oo.lt k hk).1)
            have HO5' : Hid (w11.ownsRow W6.heap.size 49 3 ov' (k + 1) (OC ++ [.int .i64 M.frm, .string M.body, .string M.sig])) := by
              first | exact hown5 | simpa using hown5
            clear hgrow5 hown5 XM
            go_wp2
            refine ⟨⟨k + 1, by omega, by norm_cast, ?_, ?_, ?_, o5⟩, ?_⟩
            · rw [HF1'.out]; norm_cast
            · rw [HS1'.out]; exact K5
            · rw [HM1'.out]; exact HO5'.out
            · simp [intOf]; omega
          · have hat : atC spoil SEQ k = SEQ + 4 := by unfold atC spB; rw [hBk]; rfl
            have hS1' : ckS r (atC spoil SEQ) [] (k + 1) = note (ckS r (atC spoil SEQ) [] k) ((k : Int), byS (ckB (SEQ + 4) r)) := by rw [ckS, hat]
            have hM1' : sgCells (ckM r (atC spoil SEQ) [] (k + 1)) = sgCells (ckM r (atC spoil SEQ) [] k) ++ [.int .i64 (sgM (ckS r (atC spoil SEQ) [] k) k (ckB (SEQ + 4) r)).frm, .string (sgM (ckS r (atC spoil SEQ) [] k) k (ckB (SEQ + 4) r)).body, .string (sgM (ckS r (atC spoil SEQ) [] k) k (ckB (SEQ + 4) r)).sig] := by rw [ckM, hat, sgCells_snoc]
            have hF1 : (forS (atC spoil SEQ) SEQ (k + 1)).length = (forS (atC spoil SEQ) SEQ k).length := by
              rw [forS_succ, hat, if_neg (by omega)]
              simp
            have hEk := HE.out k
            rw [hat] at hEk
            obtain ⟨hs1, hs2⟩ := seal_sgM (ckS r (atC spoil SEQ) [] k) k (ckB (SEQ + 4) r) hsg hEk
            have HSe : Hid _ := seal_calls k (ckB (SEQ + 4) r) none 0 0 w8 K2 (by omega) (by show r.size ≤ maxLen; unfold maxLen; omega) (show (⟨#[]⟩ : ByteArray).size ≤ maxLen by decide) (show ([] : List Sg).length < _ by decide) (Or.inl ⟨⟨_, _, rfl⟩, rfl⟩)
            rw [hs1, hs2] at HSe
            have HS1' : Hid _ := hS1'
            have HM1' : Hid _ := hM1'
            have HF1' : Hid _ := hF1
            have hfl : (forS (atC spoil SEQ) SEQ k).length ≤ k := by unfold forS; exact Nat.le_trans (List.length_filter_le _ _) (by simp)
            clear hS1' hM1' hF1 hs1 hs2 hEk hat
            generalize sgM (ckS r (atC spoil SEQ) [] k) k (ckB (SEQ + 4) r) = M at *
            generalize note (ckS r (atC spoil SEQ) [] k) ((k : Int), byS (ckB (SEQ + 4) r)) = S2 at *
            generalize sgCells (ckM r (atC spoil SEQ) [] k) = OC at *
            generalize (forS (atC spoil SEQ) SEQ k).length = gk at *
            unfold ckB Bd.val Sg.val at HSe
            have wgk : IntKind.i64.wrap ((gk : Int) + 1) = gk + 1 := wrapC (by omega) (by omega)
            go_wp2_with fail
            refine Calls.mono HSe.out ?_
            rintro e w9 ⟨rfl, K3, o3⟩
            obtain ⟨W10, hW10, XM, B10, Z10⟩ : ∃ W10, (w9.alloc (.cells #[.int .i64 M.frm, .string M.body, .string M.sig] 49)) = W10 ∧ Blk W10 w9.heap.size #[.int .i64 M.frm, .string M.body, .string M.sig] 49 ∧ Below w9.heap.size w9 W10 ∧ W10.heap.size = w9.heap.size + 1 :=
              ⟨_, rfl, blk_new _ _ _ _ rfl, by go_grown, by simp⟩
            have m0 : W10.cell? ⟨w9.heap.size, 0, none⟩ = some (.int .i64 M.frm) := XM.cell rfl
            have m1 : W10.cell? ⟨w9.heap.size, 1, none⟩ = some (.string M.body) := XM.cell rfl
            have m2 : W10.cell? ⟨w9.heap.size, 2, none⟩ = some (.string M.sig) := XM.cell rfl
            have oo := own_below (own_off2 K2 ho o3) B10
            have K4 := K3.below B10
            have o4 : Off2 x y W6 W10 := o2.trans (o3.trans (Off2.of_below B10))
            have z4 := o4.size
            have HZ10 : Hid _ := Z10
            clear HSe Z10
            go_wp2_with (at_builtin; refine wpList_append_own _ rfl _ _ 52 rfl W6.heap.size 49 iS (.agg #[.int .i64 0, .string ⟨#[]⟩, .string ⟨#[]⟩]) 3 40 Tryz.underlying52 hS hS0 hS1 hS2 rfl (by decide) _ _ _ rfl (oo.alloc _) ⟨W10.heap.size, 0, none⟩ 1 1 [.int .i64 M.frm, .string M.body, .string M.sig] rfl rfl ?c1 ?c2 ?c3 ?c4 ?c5 ?_)
            case c1 => exact row_newC _ _ _ _ _
            case c2 => intro u hu; simp at hu; rcases hu with rfl | rfl | rfl <;> rfl
            case c3 => unfold maxLen; omega
            case c4 => omega
            case c5 => simp; omega
            intro ov' w11 hown5 hgrow5 _
            have K5 : Book w11 p b x y T5 S2 := Book.grown (K4.below ((Below.refl _ _).alloc (Nat.le_refl _) _)) hgrow5 (K4.apart oo (by decide) (by decide))
            have o5 : Off2 x y W6 w11 := off2_grown (o4.trans (Off2.of_below ((Below.refl _ _).alloc (Nat.le_refl _) _))) hgrow5 (fun k hk => (oo.lt k hk).1)
            have HO5' : Hid (w11.ownsRow W6.heap.size 49 3 ov' (k + 1) (OC ++ [.int .i64 M.frm, .string M.body, .string M.sig])) := by
              first | exact hown5 | simpa using hown5
            clear hgrow5 hown5 XM
            go_wp2
            refine ⟨⟨k + 1, by omega, by norm_cast, ?_, ?_, ?_, o5⟩, ?_⟩
            · rw [HF1'.out]
            · rw [HS1'.out]; exact K5
            · rw [HM1'.out]; exact HO5'.out
            · simp [intOf]; omega
        · have hdk : decide ((k : Int) < (n : Int)) = false := by simp only [decide_eq_false_iff_not]; omega
          obtain rfl : k = n := by omega
          have q0 : wr.cell? ⟨w5.heap.size, 0, none⟩ = some (.int .i64 Q.cnt) := Blk.cell (Blk.off2 HX6.out o2 (by omega) (by omega)) rfl
          have q1 : wr.cell? ⟨w5.heap.size, 1, none⟩ = some (.slice pv Lp.length cv) := Blk.cell (Blk.off2 HX6.out o2 (by omega) (by omega)) rfl
          have hok := (pfFits_parts HFIT.out).1
          obtain ⟨t, ht⟩ : ∃ t : ByteArray, ⟨(pfB Q).toArray⟩ = t := ⟨_, rfl⟩
          have htz : t.size ≤ 12020 := by rw [← ht]; exact pfB_len hok
          have hpr : proofR Q = #[.string t, .int .i64 0] := by unfold proofR; rw [if_pos hok, ht]
          have HPr : Hid _ := proof_ref Q (.slice pv Lp.length cv) wr (Pts.off2 HPts.out HB6.out o2)
          rw [hpr] at HPr
          unfold Pf.val at HPr
          obtain ⟨hq, hc, rfl⟩ : ∃ hq hc, u16 = .slice hq k hc := own_slice ho
          have hml := ckM_len r (atC spoil SEQ) [] k
          have hmo := ckM_ok r (atC spoil SEQ) [] k (by omega)
          have hmb := ckM_bytes r (atC spoil SEQ) [] k hrz.2
          have hsg0 : isSg 0 = true := by decide
          have ho' : wr.ownsRow W6.heap.size 49 3 (.slice hq k hc) (ckM r (atC spoil SEQ) [] k).length (sgCells (ckM r (atC spoil SEQ) [] k)) := by rw [hml]; exact ho
          have hsgs : Sgs wr (.slice hq k hc) (ckM r (atC spoil SEQ) [] k) := sgs_of_own ho' (fun m hm => by
            have := List.all_eq_true.1 hmo m hm
            unfold sgOk at this
            simp only [Bool.and_eq_true, decide_eq_true_eq] at this
            unfold maxLen
            omega)
          have hright := pr_right SEQ r t (ckM r (atC spoil SEQ) [] k) ⟨hsz.1, by omega, hsz.2.2⟩ hrz (by omega) (by omega) hmo
          have HSe : Hid _ := fun wx (hb : Below wr.heap.size wr wx) => seal_calls 0 (prB SEQ r t (ckM r (atC spoil SEQ) [] k)) hq k hc wx (K2.below hb) (by omega) (by show r.size ≤ maxLen; unfold maxLen; omega) (by show t.size ≤ maxLen; unfold maxLen; omega) (by show (ckM r (atC spoil SEQ) [] k).length < _; omega) (hsgs.below hb)
          obtain ⟨M, E, S2, hs1, hs2, hMok, hfin⟩ : ∃ (M : Sg) (E : Int) (S2 : List (Int × ByteArray)), sealR (ckS r (atC spoil SEQ) [] k) 0 (prB SEQ r t (ckM r (atC spoil SEQ) [] k)) = (M, E) ∧ sealS (ckS r (atC spoil SEQ) [] k) 0 (prB SEQ r t (ckM r (atC spoil SEQ) [] k)) = S2 ∧ sgOk M = true ∧ (E ≠ 0 ∨ (E = 0 ∧ 1 ≤ k ∧ byE (prB SEQ r t (ckM r (atC spoil SEQ) [] k)) = 0 ∧ M = sgM (ckS r (atC spoil SEQ) [] k) 0 (prB SEQ r t (ckM r (atC spoil SEQ) [] k)) ∧ S2 = note (ckS r (atC spoil SEQ) [] k) (0, byS (prB SEQ r t (ckM r (atC spoil SEQ) [] k))))) := by
            by_cases hk0 : k = 0
            · have he : byE (prB SEQ r t (ckM r (atC spoil SEQ) [] k)) = 14 := by
                have hnil : ckM r (atC spoil SEQ) [] k = [] := List.length_eq_zero_iff.1 (by omega)
                rw [if_pos hnil] at hright
                unfold byE
                rw [if_neg (by rw [hright]; decide), hright]
              exact ⟨zeroSg, 14, _, by unfold sealR; rw [if_neg (by rw [he]; decide), he], rfl, by decide, Or.inl (by decide)⟩
            · have he : byE (prB SEQ r t (ckM r (atC spoil SEQ) [] k)) = 0 := by
                rw [if_neg (fun e => by rw [e] at hml; simp at hml; omega)] at hright
                exact byE_len hright (by have := pr_len SEQ r t (ckM r (atC spoil SEQ) [] k) hrz.2 (by omega) (by omega); omega)
              obtain ⟨h1, h2⟩ := seal_sgM (ckS r (atC spoil SEQ) [] k) 0 _ hsg0 he
              exact ⟨_, 0, _, h1, h2, sgM_ok _ _ _ hsg0, Or.inr ⟨rfl, by omega, he, rfl, rfl⟩⟩
          rw [hs1, hs2] at HSe
          unfold prB Bd.val Sg.val at HSe
          have HOne : Hid _ := fun wx => one_ref M wx hMok
          have HGs : Hid ((Tryz.prog.info? 49).map (·.size) = some (#[.int .i64 M.frm, .string M.body, .string M.sig] : Array Value).size) := infoSg3
          unfold Sg.val at HOne
          have HK2 : Hid _ := K2
          have HO2 : Hid _ := o2
          have HFIN : Hid _ := hfin
          have HT : Hid _ := ht
          obtain ⟨BE, hBE⟩ : ∃ BE, (E == 0) = BE := ⟨_, rfl⟩
          have hBE' : decide (E = 0) = BE := hBE
          clear K2 hsgs ho ho' XS2 hright hs1 hs2 hfin hMok hml hmo hmb hsg0 hpr ht hok o2 e3 HXS HX6 HPts
          generalize hgk : (forS (atC spoil SEQ) SEQ k).length = gk at *
          have HGK : Hid _ := hgk
          clear hgk
          go_wp2_with fail
          refine (HA2.out _).mono ?_
          rintro e w8 ⟨rfl, rfl⟩
          rename World => wr
          go_wp2_with fail
          refine Calls.mono HPr.out ?_
          rintro e w9 ⟨rfl, b9⟩
          go_wp2_with fail
          refine Calls.mono (HSe.out _ b9) ?_
          rintro e w10 ⟨rfl, K10, o10⟩
          obtain ⟨W11, hW11, M11, B11⟩ : ∃ W11, w10.alloc (.cells #[.int .i64 M.frm, .string M.body, .string M.sig] 49) = W11 ∧ Blk W11 w10.heap.size #[.int .i64 M.frm, .string M.body, .string M.sig] 49 ∧ Below w10.heap.size w10 W11 := ⟨_, rfl, blk_new _ _ _ _ rfl, by go_grown⟩
          go_wp2_with ((with_reducible refine rd_row (ty := 49) M11 Tryz.underlying49 rfl HGs.out ?_ ?_); rfl)
          refine Calls.mono (HOne.out _) ?_
          rintro e w12 ⟨rfl, b12⟩
          have oF : Off2 x y w w12 := HO5.out.trans (HO2.out.trans ((Off2.of_below b9).trans (o10.trans (Off2.of_below (chain B11 b12)))))
          have K12 := K10.below (chain B11 b12)
          clear M11 HSe HPr HOne
          go_wp2
          refine bodyPost_ret (v := .tuple #[.string ⟨(sgB M).toArray⟩, .int .i64 gk, .bool BE]) (shown_results rfl rfl rfl) rfl ?_
          rcases HFIN.out with hE0 | ⟨rfl, hk1, he, rfl, rfl⟩
          · obtain rfl : BE = false := by rw [← hBE']; exact decide_eq_false hE0
            exact Or.inl ⟨_, _, _, rfl, ⟨_, K12⟩, oF⟩
          · obtain rfl : BE = true := by rw [← hBE']; rfl
            rw [hSEQ]
            refine Or.inr ⟨k, atC spoil SEQ, r, T5, Q, r1, hk', hk1, by omega, HAT.out, HR5.out, HFIT.out, HSHOW.out, HLED.out, hT5, ?_, ?_, ?_, oF⟩
            · rw [HT.out]; exact he
            · rw [HT.out, HGK.out]
            · rw [HT.out]; exact K12
  · obtain ⟨rfl, b3⟩ := P3.bad r1
    have HL3 : Hid _ := Rcs.below HL1.out b3
    have HP : Hid _ := proveRecs_calls _ L key w3' HL3.out (by omega) (hB1.below b3) (by simp) (by simp)
    have X3 := Blk.below HX1.out b3
    have d0 : w3'.cell? ⟨w.heap.size, 0, none⟩ = some (.slice a L.length cap) := X3.cell rfl
    have HX3 : Hid _ := X3
    have HB3 : Hid _ := hB1.below b3
    have HO3 : Hid (Off2 x y w w3') := Off2.of_below (chain B1 b3)
    obtain ⟨E, hE⟩ : ∃ E, riseR L = E := ⟨_, rfl⟩
    have hE0 : E ≠ 0 := by rw [← hE]; exact r1
    have d0e : decide (E = 0) = false := decide_eq_false hE0
    have d0' : (E == 0) = false := d0e
    have HE : Hid _ := hE
    have HBAD : Hid _ := r1
    simp only [hE]
    clear P3 HR r1 hE X3 HX1 HL1 hB1 B1 h b3
    go_wp2_with fail
    refine Calls.mono HP.out ?_
    rintro e w5 P5
    obtain ⟨he, b5⟩ := P5.bad HBAD.out
    rw [HE.out] at he
    obtain ⟨n0, q0, m0, cp0, rfl⟩ : ∃ (n0 : Int) (q0 : Option Addr) (m0 cp0 : Nat), e = .returned (.tuple #[.agg #[.int .i64 n0, .slice q0 m0 cp0], .int .i64 E]) := ⟨0, none, 0, 0, he⟩
    obtain ⟨W6, hW6, B6⟩ : ∃ W6, w5.alloc (.cells #[.int .i64 n0, .slice q0 m0 cp0] 45) = W6 ∧ Below w5.heap.size w5 W6 := ⟨_, rfl, by go_grown⟩
    have b56 := chain b5 B6
    have e1 : W6.cell? ⟨w.heap.size, 1, none⟩ = some (.int .i64 seq0) := Blk.cell (Blk.below HX3.out b56) rfl
    clear P5 HP he HE HBAD
    go_wp2_with fail
    refine (HA1.out _).mono ?_
    rintro e w7 ⟨rfl, rfl⟩
    go_wp2
    refine bodyPost_ret (v := .tuple #[.string ⟨#[]⟩, .int .i64 0, .bool false]) (shown_results rfl rfl rfl) rfl ?_
    exact Or.inl ⟨_, _, _, rfl, ⟨_, HB3.out.below b56⟩, HO3.out.trans (Off2.of_below b56)⟩
end Go.Proofs.YtocphdikppeijaaGreat
