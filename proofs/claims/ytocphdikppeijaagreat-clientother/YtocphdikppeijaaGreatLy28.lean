/- Prove of records: the program's answer. -/
import Derived.Test.YtocphdikppeijaaGreatLy27
import Derived.Test.YtocphdikppeijaaGreatLy19
namespace Go.Proofs.YtocphdikppeijaaGreat
open Go.RowKit
set_option linter.unusedSimpArgs false
set_option linter.unusedVariables false
variable {p b x y : Nat} {T : List ByteArray} {S : List (Int × ByteArray)}

def isK (key : ByteArray) : Bool := decide (1 ≤ key.size ∧ key.size ≤ 64)
theorem isKey_calls (key : ByteArray) (w : World) : Calls Tryz.prog 34 #[.string key] w fun e w' => e = .returned (.bool (isK key)) ∧ w' = w := by
  unfold isK
  by_cases h1 : 1 ≤ key.size
  · have hd1 : decide ((1 : Int) ≤ (key.size : Int)) = true := by simp only [decide_eq_true_eq]; omega
    have hd2 : decide (1 ≤ key.size ∧ key.size ≤ 64) = decide ((key.size : Int) ≤ 64) := by
      by_cases h2 : key.size ≤ 64
      · rw [decide_eq_true ⟨h1, h2⟩, decide_eq_true (by omega)]
      · rw [decide_eq_false (fun h => h2 h.2), decide_eq_false (by omega)]
    rw [hd2]
    go_enter Tryz.func34, Tryz.ntmps34
    go_wp2
    go_ret
    exact ⟨rfl, rfl⟩
  · have hd1 : decide ((1 : Int) ≤ (key.size : Int)) = false := by simp only [decide_eq_false_iff_not]; omega
    have hd2 : decide (1 ≤ key.size ∧ key.size ≤ 64) = false := decide_eq_false (fun h => h1 h.1)
    rw [hd2]
    go_enter Tryz.func34, Tryz.ntmps34
    go_wp2
    go_ret
    exact ⟨rfl, rfl⟩

theorem proveRecs_results {w' : World} {c0 c1 v : Value} {r : Nat} (X : Blk w' r #[c0, c1] 45) {t : Array Value} (h1 : t.getD 6 undef = .pointer (some ⟨r, 0, none⟩)) (h2 : t.getD 7 undef = v) :
    (results Tryz.f12 t).run Tryz.prog w' = .ok (.tuple #[.agg #[c0, c1], v]) w' := by
  have a0 := X.cell (o := 0) rfl
  have a1 := X.cell (o := 1) rfl
  simp only [Array.getD_eq_getD_getElem?] at h1 h2
  simp [results, Tryz.results12, go_sem, h1, h2, a0, a1]
/-- What Prove answers. -/
structure ProvesP (x y p b : Nat) (T : List ByteArray) (S : List (Int × ByteArray)) (w : World) (l : List Rc) (key : ByteArray) (e : Ending) (w' : World) : Prop where
  bad : riseR l ≠ 0 → e = .returned (.tuple #[.agg #[.int .i64 0, .slice none 0 0], .int .i64 (riseR l)]) ∧ Below w.heap.size w w'
  field : riseR l = 0 → isK key = false → e = .returned (.tuple #[.agg #[.int .i64 0, .slice none 0 0], .int .i64 14]) ∧ Below w.heap.size w w'
  good : riseR l = 0 → isK key = true → ∃ (r : Nat) (L : List (Pt × Value)) (ls T' : List ByteArray) (pv : Option Addr) (cv : Nat), Lvs T' l ls ∧ Spot l key r ∧ PathsOk T' l ls key r (L.map Prod.fst) ∧ e = .returned (.tuple #[.agg #[.int .i64 l.length, .slice pv L.length cv], .int .i64 0]) ∧ w'.ownsRow w.heap.size 111 4 (.slice pv L.length cv) L.length (ptC L) ∧ (∀ q ∈ L, w'.ownsRow w.heap.size 9 1 q.2 q.1.sides.length (txC q.1.sides)) ∧ Grew x y p b T S w (3 * l.length) T' w'

set_option maxHeartbeats 4000000 in
set_option maxRecDepth 100000 in
theorem proveRecs_calls (v : Value) (l : List Rc) (key : ByteArray) (w : World) (hr : Rcs w v l) (hl : l.length ≤ 9223372036854775807) (h : Book w p b x y T S) (hS : S.length < 1000000) (hT : T.length < 500000) :
    Calls Tryz.prog 12 #[.pointer (some ⟨p, 0, none⟩), v, .string key] w (ProvesP x y p b T S w l key) := by
  obtain ⟨W1, hW1, X1, B1, Z1⟩ : ∃ W1, w.alloc (.cells #[.int .i64 0, .slice none 0 0] 45) = W1 ∧ Blk W1 w.heap.size #[.int .i64 0, .slice none 0 0] 45 ∧ Below w.heap.size w W1 ∧ W1.heap.size = w.heap.size + 1 :=
    ⟨_, rfl, blk_new _ _ _ _ rfl, by go_grown, by simp⟩
  have HR : Hid _ := refuse_calls v l W1 (hr.below B1) hl (h.below B1) hS
  have HK : Hid _ := isKey_calls key
  by_cases h0 : riseR l = 0
  · rw [h0] at HR
    cases hk : isK key
    · rw [hk] at HK
      go_enter Tryz.func12, Tryz.ntmps12
      go_wp2_with fail
      refine Calls.mono HR.out ?_
      rintro e w1 ⟨rfl, b1⟩
      go_wp2_with fail
      refine (HK.out _).mono ?_
      rintro e w2 ⟨rfl, rfl⟩
      obtain ⟨W3, hW3, X3, _⟩ := setRow_named (X1.below b1) #[.int .i64 0, .slice none 0 0]
      go_wp2_with ((with_reducible refine st_row (ty := 45) (X1.below b1) (infoPf2 _ _) (pfSame _ _ _ _) (pfOne _ _ _ _) hW3 ?_ ?_ ?_); rfl; rfl)
      refine bodyPost_ret (v := .tuple #[.agg #[.int .i64 0, .slice none 0 0], .int .i64 14]) (proveRecs_results X3 rfl rfl) rfl ?_
      exact ⟨fun hh => absurd h0 hh, fun _ _ => ⟨rfl, below_row (chain B1 b1) hW3 (by omega)⟩, fun _ hh => by rw [hk] at hh; cases hh⟩
    · rw [hk] at HK
      obtain ⟨hl4, hzz⟩ := riseR_ok h0
      have hri := rising_of h0
      go_enter Tryz.func12, Tryz.ntmps12
      go_wp2_with fail
      refine Calls.mono HR.out ?_
      rintro e w1 ⟨rfl, b1⟩
      go_wp2_with fail
      refine (HK.out _).mono ?_
      rintro e w2 ⟨rfl, rfl⟩
      have b2 := chain B1 b1
      have hBk := h.below b2
      have hr2 := hr.below b2
      have hlts := h.lts
      go_wp2_with fail
      rename World => wq
      refine (over_calls v l wq hr2 hBk hl4 (by omega) hzz).mono ?_
      rintro e w3 ⟨k, dv, ls, T1, rfl, hk1, hX, ho, hlv, G1⟩
      have ll := hlv.len
      have l1 := G1.len
      have z2 := b2.size
      have z3 := G1.off.size
      have X3 : Blk w3 w.heap.size #[.int .i64 0, .slice none 0 0] 45 := (X1.below b1).off2 G1.off (by omega) (by omega)
      go_wp2_with fail
      refine (prove_calls k v dv l ls key w3 hX (hr2.off2 hBk G1.off) hl4 hri hzz (lf_own ho) ll hlv.small G1.book (by omega)).mono ?_
      rintro e w4 ⟨r, L, T2, pv, cv, hsp, hpo, rfl, hown, hos, G2⟩
      have X4 : Blk w4 w.heap.size #[.int .i64 0, .slice none 0 0] 45 := X3.off2 G2.off (by omega) (by omega)
      obtain ⟨W5, hW5, X5, _⟩ := setRow_named X4 #[.int .i64 l.length, .slice pv L.length cv]
      go_wp2_with ((with_reducible refine st_row (ty := 45) X4 (infoPf2 _ _) (pfSame _ _ _ _) (pfOne _ _ _ _) hW5 ?_ ?_ ?_); rfl; rfl)
      refine bodyPost_ret (v := .tuple #[.agg #[.int .i64 l.length, .slice pv L.length cv], .int .i64 0]) (proveRecs_results X5 rfl rfl) rfl ?_
      have b1z := b1.size
      have G0 : Grew x y p b T S w 0 T wq := (Grew.refl h).below b2
      have GG := (G0.trans G1).trans G2
      refine ⟨fun hh => absurd h0 hh, fun _ hh => absurd (hk.symm.trans hh) (by decide), fun _ _ => ⟨r, L, ls, T2, pv, cv, hlv.ext G2.ext, hsp, hpo, rfl, ?_, fun q hq => ?_, ?_⟩⟩
      · rw [← hW5]; exact ownsRow_weakM (own_rowM hown (by omega)) (by omega)
      · rw [← hW5]; exact ownsRow_weakM (own_rowM (hos q hq) (by omega)) (by omega)
      · rw [← hW5]; exact (GG.row (by omega) (by omega) (by omega) (by omega) (by omega)).le (by omega)
  · obtain ⟨E, hE⟩ : ∃ E, riseR l = E := ⟨_, rfl⟩
    have hE0 : E ≠ 0 := by rw [← hE]; exact h0
    have d0 : decide (E = 0) = false := decide_eq_false hE0
    have d0' : (E == 0) = false := d0
    rw [hE] at HR
    go_enter Tryz.func12, Tryz.ntmps12
    go_wp2_with fail
    refine Calls.mono HR.out ?_
    rintro e w1 ⟨rfl, b1⟩
    obtain ⟨W3, hW3, X3, _⟩ := setRow_named (X1.below b1) #[.int .i64 0, .slice none 0 0]
    go_wp2_with ((with_reducible refine st_row (ty := 45) (X1.below b1) (infoPf2 _ _) (pfSame _ _ _ _) (pfOne _ _ _ _) hW3 ?_ ?_ ?_); rfl; rfl)
    refine bodyPost_ret (v := .tuple #[.agg #[.int .i64 0, .slice none 0 0], .int .i64 E]) (proveRecs_results X3 rfl rfl) rfl ?_
    exact ⟨fun _ => ⟨by rw [hE], below_row (chain B1 b1) hW3 (by omega)⟩, fun hh => absurd hh h0, fun hh => absurd hh h0⟩
end Go.Proofs.YtocphdikppeijaaGreat

namespace Go.Proofs.YtocphdikppeijaaGreat
open Go.RowKit
set_option linter.unusedSimpArgs false
set_option linter.unusedVariables false
variable {p b x y : Nat} {T : List ByteArray} {S : List (Int × ByteArray)}

/-- How many sides there are beside the way from leaf i of n. -/
def hgtF : Nat → Nat → Nat → Nat
  | 0, _, _ => 0
  | f + 1, i, n => if n ≤ 1 then 0 else if i < hf n then hgtF f i (hf n) + 1 else hgtF f (i - hf n) (n - hf n) + 1
theorem hgtF_is : ∀ (f i n : Nat), i < n → n ≤ f → Hgt i n (hgtF f i n) := by
  intro f
  induction f with
  | zero => intro i n h1 h2; omega
  | succ f ih =>
    intro i n h1 h2
    by_cases hn : n ≤ 1
    · obtain rfl : n = 1 := by omega
      obtain rfl : i = 0 := by omega
      exact .one
    · obtain ⟨k1, k2⟩ := hf_bounds (n := n) (by omega)
      by_cases hi : i < hf n
      · have e : hgtF (f + 1) i n = hgtF f i (hf n) + 1 := by rw [hgtF, if_neg hn, if_pos hi]
        rw [e]
        exact .left i n _ (by omega) hi (ih _ _ hi (by omega))
      · have e : hgtF (f + 1) i n = hgtF f (i - hf n) (n - hf n) + 1 := by rw [hgtF, if_neg hn, if_neg hi]
        rw [e]
        exact .right i n _ (by omega) (by omega) (ih _ _ (by omega) (by omega))
def hgt (i n : Nat) : Nat := hgtF n i n
theorem hgt_is {i n : Nat} (h : i < n) : Hgt i n (hgt i n) := hgtF_is n i n h (Nat.le_refl _)
/-- A path that has a place, and as many sides as it must. -/
def ptFits (cnt : Int) (t : Pt) : Bool := decide (t.idx < cnt) && decide (t.sides.length = hgt t.idx.toNat cnt.toNat)
def pfFits (q : Pf) : Bool := pfOk q && q.paths.all (ptFits q.cnt)

theorem heightM_calls (i n : Nat) (w : World) (hi : i < n) (hn : n ≤ 4096) : Calls Tryz.prog 100 #[.int .i64 i, .int .i64 n] w fun e w' => e = .returned (.int .i64 (hgt i n)) ∧ w' = w :=
  (height_calls i n w hi hn).mono (fun e w' ⟨h, he, hh, hw⟩ => ⟨by rw [he, hh.same (hgt_is hi)], hw⟩)
theorem below_drewN (B : Nat) (w : World) (n : Nat) : Below B w (w.drewN n) := ⟨rfl, rfl, rfl, Nat.le_refl _, fun _ _ => rfl⟩
set_option maxHeartbeats 4000000 in
set_option maxRecDepth 100000 in
theorem isProofM_calls (q : Pf) (lv : Value) (w : World) (hs : Pts w lv q.paths) :
    Calls Tryz.prog 70 #[q.val lv] w fun e w' => e = .returned (.bool (pfFits q)) ∧ Below w.heap.size w w' := by
  obtain ⟨W1, hW1, X1, B1, Z1⟩ : ∃ W1, w.alloc (.cells #[.int .i64 q.cnt, lv] 45) = W1 ∧ Blk W1 w.heap.size #[.int .i64 q.cnt, lv] 45 ∧ Below w.heap.size w W1 ∧ W1.heap.size = w.heap.size + 1 :=
    ⟨_, rfl, blk_new _ _ _ _ rfl, by go_grown, by simp⟩
  have HP : Hid _ := putProof_calls q lv W1 (hs.below B1)
  unfold Pf.val at *
  have e0 : W1.cell? ⟨w.heap.size, 0, none⟩ = some (.int .i64 q.cnt) := X1.cell rfl
  have e1 : W1.cell? ⟨w.heap.size, 1, none⟩ = some lv := X1.cell rfl
  obtain ⟨a, cap, rfl⟩ := hs.len
  cases hok : pfOk q
  · have hR : proofR q = #[.string ⟨#[]⟩, .int .i64 14] := by unfold proofR; rw [if_neg (by rw [hok]; simp)]
    have hF : pfFits q = false := by unfold pfFits; rw [hok]; rfl
    rw [hR] at HP
    rw [hF]
    go_enter Tryz.func70, Tryz.ntmps70
    go_wp2_with fail
    refine Calls.mono HP.out ?_
    rintro e w2 ⟨rfl, b2⟩
    go_wp2
    go_ret
    exact ⟨rfl, chain B1 b2⟩
  · have hR : proofR q = #[.string ⟨(pfB q).toArray⟩, .int .i64 0] := by unfold proofR; rw [if_pos hok]
    rw [hR] at HP
    go_enter Tryz.func70, Tryz.ntmps70
    go_wp2_with fail
    refine Calls.mono HP.out ?_
    rintro e w2 ⟨rfl, b2⟩
    have f0 := keepCell b2 e0
    have f1 := keepCell b2 e1
    obtain ⟨⟨hc0, hc1⟩, hp2, hpt⟩ := pfOk_parts hok
    have HS : Hid _ := hs.below (chain B1 b2)
    have HPT : Hid _ := hpt
    have hok2 : pfFits q = q.paths.all (ptFits q.cnt) := by unfold pfFits; rw [hok]; rfl
    have HOK : Hid _ := hok2
    clear HP hR hs hpt hok2 hok e0 e1 X1 hW1
    obtain ⟨cn, hcn⟩ := Int.eq_ofNat_of_zero_le hc0
    go_wp2_with fail
    go_loopw [17] (fun i wr => ∃ k : Nat, k ≤ q.paths.length ∧ i = .int .i64 k ∧ Hid ((q.paths.take k).all (ptFits q.cnt) = true) ∧ Below w2.heap.size w2 wr) (fun i _ => q.paths.length - (intOf i).toNat)
    case atStart => exact ⟨0, Nat.zero_le _, rfl, rfl, Below.refl _ _⟩
    case round =>
      obtain ⟨k, hk, rfl, hall, hb⟩ := hrel
      by_cases hlt : k < q.paths.length
      · have hd : decide ((k : Int) < (q.paths.length : Int)) = true := by simp only [decide_eq_true_eq]; omega
        obtain ⟨g, off, sv, rfl, m0, m1, m2, m3, hst⟩ : ∃ g off sv, a = some ⟨g, off, none⟩ ∧ wr.cell? ⟨g, off + k * 4, none⟩ = some (.int .i64 q.paths[k].idx) ∧ wr.cell? ⟨g, off + k * 4 + 1, none⟩ = some (.string q.paths[k].key) ∧ wr.cell? ⟨g, off + k * 4 + 2, none⟩ = some (.string q.paths[k].dat) ∧ wr.cell? ⟨g, off + k * 4 + 3, none⟩ = some sv ∧ Strs w2 sv q.paths[k].sides := by
          rcases HS.out with ⟨_, h0⟩ | ⟨g, off, c, e, hx⟩
          · rw [h0] at hlt; simp at hlt
          · simp only [Value.slice.injEq] at e
            obtain ⟨sv, q1, q2, q3, q4, q5, _⟩ := hx k hlt
            exact ⟨g, off, sv, e.1, keepCell hb q1, keepCell hb q2, keepCell hb q3, keepCell hb q4, q5⟩
        obtain ⟨sp, sc, rfl⟩ := hst.len
        have hto := HPT.out q.paths[k] (List.getElem_mem hlt)
        have htk : (q.paths.take (k + 1)).all (ptFits q.cnt) = ((q.paths.take k).all (ptFits q.cnt) && ptFits q.cnt q.paths[k]) := by
          rw [List.take_succ_eq_append_getElem hlt, List.all_append]; simp
        have hfl : ptFits q.cnt q.paths[k] = false → q.paths.all (ptFits q.cnt) = false := fun h0 => by
          cases h1 : q.paths.all (ptFits q.cnt)
          · rfl
          · have := List.all_eq_true.1 h1 q.paths[k] (List.getElem_mem hlt); rw [h0] at this; cases this
        have HTK : Hid _ := htk
        have HFL : Hid _ := hfl
        clear htk hfl hst
        generalize q.paths[k] = t at *
        have hti : 0 ≤ t.idx ∧ t.idx ≤ 4095 ∧ t.sides.length ≤ 13 := by
          simp only [ptOk, Bool.and_eq_true, decide_eq_true_eq] at hto; omega
        obtain ⟨ti, htn⟩ := Int.eq_ofNat_of_zero_le hti.1
        obtain ⟨W3, hW3, X3, B3, Z3⟩ : ∃ W3, wr.alloc (.cells #[.int .i64 t.idx, .string t.key, .string t.dat, .slice sp t.sides.length sc] 111) = W3 ∧ Blk W3 wr.heap.size #[.int .i64 t.idx, .string t.key, .string t.dat, .slice sp t.sides.length sc] 111 ∧ Below wr.heap.size wr W3 ∧ W3.heap.size = wr.heap.size + 1 :=
          ⟨_, rfl, blk_new _ _ _ _ rfl, by go_grown, by simp⟩
        have g0 : W3.cell? ⟨wr.heap.size, 0, none⟩ = some (.int .i64 t.idx) := X3.cell rfl
        have g3 : W3.cell? ⟨wr.heap.size, 3, none⟩ = some (.slice sp t.sides.length sc) := X3.cell rfl
        have p0 := keepCell B3 (keepCell hb f0)
        have hcn4 : cn ≤ 4096 := by omega
        have hcq : q.cnt = (cn : Int) := hcn
        have HCN : Hid _ := hcn
        have HTN : Hid _ := htn
        clear HS HPT hto hcn htn hcq
        go_wp2_with fail
        clear f0 f1 m0 m1 m2 m3 hW3 X3 hc0 hc1 hti hd
        by_cases hge : q.cnt ≤ t.idx
        · have dge : decide (q.cnt ≤ t.idx) = true := decide_eq_true hge
          have hF : ptFits q.cnt t = false := by unfold ptFits; rw [decide_eq_false (by omega)]; rfl
          have HF : Hid _ := hF
          clear hF
          go_quiet (fail)
          go_wp2
          go_ret
          exact ⟨by rw [HOK.out, HFL.out HF.out]; rfl, (chain (chain B1 b2) (chain hb B3)).trans (below_drewN _ _ _)⟩
        · have dge : decide (q.cnt ≤ t.idx) = false := decide_eq_false hge
          have hlt2 : ti < cn := by have := HTN.out; have := HCN.out; omega
          have hht := fun wx => heightM_calls ti cn wx hlt2 hcn4
          rw [← HTN.out, ← HCN.out] at hht
          have HHT : Hid _ := hht
          have hpf : ptFits q.cnt t = decide (t.sides.length = hgt ti cn) := by
            unfold ptFits; rw [decide_eq_true (by omega), HTN.out, HCN.out]; simp
          have HPF : Hid _ := hpf
          clear hpf hht
          generalize hgt ti cn = hg at *
          by_cases hsl : t.sides.length = hg
          · have hF : ptFits q.cnt t = true := by rw [HPF.out]; exact decide_eq_true hsl
            have HF : Hid _ := hF
            have dn : ((t.sides.length : Int) == (hg : Int)) = true := by rw [hsl]; exact beq_self_eq_true _
            have dn1 : decide ((t.sides.length : Int) = (hg : Int)) = true := by rw [hsl]; exact decide_eq_true rfl
            have dn2 : ((t.sides.length : Int) != (hg : Int)) = false := by rw [hsl]; simp
            clear hsl hF
            go_quiet ((go_at_call 100; exact Calls.quiet_of_same (HHT.out _)))
            go_wp2
            refine ⟨⟨k + 1, by omega, by norm_cast, ?_, (chain hb B3).trans (below_drewN _ _ _)⟩, ?_⟩
            · show _ = _
              rw [HTK.out, hall.out, HF.out]; rfl
            · simp [intOf]; omega
          · have hF : ptFits q.cnt t = false := by rw [HPF.out]; exact decide_eq_false hsl
            have HF : Hid _ := hF
            have dn : ((t.sides.length : Int) == (hg : Int)) = false := by rw [beq_eq_false_iff_ne]; omega
            have dn1 : decide ((t.sides.length : Int) = (hg : Int)) = false := decide_eq_false (by omega)
            have dn2 : ((t.sides.length : Int) != (hg : Int)) = true := by rw [bne, dn]; rfl
            clear hF
            go_quiet ((go_at_call 100; exact Calls.quiet_of_same (HHT.out _)))
            go_wp2
            go_ret
            exact ⟨by rw [HOK.out, HFL.out HF.out]; rfl, (chain (chain B1 b2) (chain hb B3)).trans (below_drewN _ _ _)⟩
      · have hd : decide ((k : Int) < (q.paths.length : Int)) = false := by simp only [decide_eq_false_iff_not]; omega
        obtain rfl : k = q.paths.length := by omega
        go_wp2
        go_ret
        have := hall.out
        rw [List.take_length] at this
        exact ⟨by rw [HOK.out, this]; rfl, chain (chain B1 b2) hb⟩
end Go.Proofs.YtocphdikppeijaaGreat
