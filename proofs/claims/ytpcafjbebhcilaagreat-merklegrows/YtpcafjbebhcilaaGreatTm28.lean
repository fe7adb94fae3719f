/- Prove of records: the program's answer. -/
import Derived.Test.YtpcafjbebhcilaaGreatTm27
namespace Go.Proofs.YtpcafjbebhcilaaGreat
open Go.RowKit
set_option linter.unusedSimpArgs false
set_option linter.unusedVariables false
variable {p b x y : Nat} {T : List ByteArray} {S : List (Int × ByteArray)}

def isK (key : ByteArray) : Bool := decide (1 ≤ key.size ∧ key.size ≤ 64)
theorem isKey_calls (key : ByteArray) (w : World) : Calls Tryz.prog 34 #[.string key] w fun e w' => e = .returned (.bool (isK key)) ∧ w' = w := by
  unfold isK
  by_cases h1 : 1 ≤ key.size
  · have hd1 : decide ((1 : Int) ≤ (key.size : Int)) = true := by simp only [decide_eq_true_eq]; omega
    have hd2 : decide (1 ≤ key.size ∧ key.size ≤ 64) = decide ((key.size : Int) ≤ 64) := by
      by_cases h2 : key.size ≤ 64
      · rw [decide_eq_true ⟨h1, h2⟩, decide_eq_true (by omega)]
      · rw [decide_eq_false (fun h => h2 h.2), decide_eq_false (by omega)]
    rw [hd2]
    go_enter Tryz.func34, Tryz.ntmps34
    go_wp2
    go_ret
    exact ⟨rfl, rfl⟩
  · have hd1 : decide ((1 : Int) ≤ (key.size : Int)) = false := by simp only [decide_eq_false_iff_not]; omega
    have hd2 : decide (1 ≤ key.size ∧ key.size ≤ 64) = false := decide_eq_false (fun h => h1 h.1)
    rw [hd2]
    go_enter Tryz.func34, Tryz.ntmps34
    go_wp2
    go_ret
    exact ⟨rfl, rfl⟩

theorem proveRecs_results {w' : World} {c0 c1 v : Value} {r : Nat} (X : Blk w' r #[c0, c1] 36) {t : Array Value} (h1 : t.getD 6 undef = .pointer (some ⟨r, 0, none⟩)) (h2 : t.getD 7 undef = v) :
    (results Tryz.f37 t).run Tryz.prog w' = .ok (.tuple #[.agg #[c0, c1], v]) w' := by
  have a0 := X.cell (o := 0) rfl
  have a1 := X.cell (o := 1) rfl
  simp only [Array.getD_eq_getD_getElem?] at h1 h2
  simp [results, Tryz.results37, go_sem, h1, h2, a0, a1]
/-- What Prove answers. -/
structure ProvesP (x y p b : Nat) (T : List ByteArray) (S : List (Int × ByteArray)) (w : World) (l : List Rc) (key : ByteArray) (e : Ending) (w' : World) : Prop where
  bad : riseR l ≠ 0 → e = .returned (.tuple #[.agg #[.int .i64 0, .slice none 0 0], .int .i64 (riseR l)]) ∧ Below w.heap.size w w'
  field : riseR l = 0 → isK key = false → e = .returned (.tuple #[.agg #[.int .i64 0, .slice none 0 0], .int .i64 14]) ∧ Below w.heap.size w w'
  good : riseR l = 0 → isK key = true → ∃ (r : Nat) (L : List (Pt × Value)) (ls T' : List ByteArray) (pv : Option Addr) (cv : Nat), Lvs T' l ls ∧ Spot l key r ∧ PathsOk T' l ls key r (L.map Prod.fst) ∧ e = .returned (.tuple #[.agg #[.int .i64 l.length, .slice pv L.length cv], .int .i64 0]) ∧ w'.ownsRow w.heap.size 80 4 (.slice pv L.length cv) L.length (ptC L) ∧ (∀ q ∈ L, w'.ownsRow w.heap.size 9 1 q.2 q.1.sides.length (txC q.1.sides)) ∧ Grew x y p b T S w (3 * l.length) T' w'

set_option maxHeartbeats 4000000 in
set_option maxRecDepth 100000 in
theorem proveRecs_calls (v : Value) (l : List Rc) (key : ByteArray) (w : World) (hr : Rcs w v l) (hl : l.length ≤ 9223372036854775807) (h : Book w p b x y T S) (hS : S.length < 1000000) (hT : T.length < 500000) :
    Calls Tryz.prog 37 #[.pointer (some ⟨p, 0, none⟩), v, .string key] w (ProvesP x y p b T S w l key) := by
  obtain ⟨W1, hW1, X1, B1, Z1⟩ : ∃ W1, w.alloc (.cells #[.int .i64 0, .slice none 0 0] 36) = W1 ∧ Blk W1 w.heap.size #[.int .i64 0, .slice none 0 0] 36 ∧ Below w.heap.size w W1 ∧ W1.heap.size = w.heap.size + 1 :=
    ⟨_, rfl, blk_new _ _ _ _ rfl, by go_grown, by simp⟩
  have HR : Hid _ := refuse_calls v l W1 (hr.below B1) hl (h.below B1) hS
  have HK : Hid _ := isKey_calls key
  by_cases h0 : riseR l = 0
  · rw [h0] at HR
    cases hk : isK key
    · rw [hk] at HK
      go_enter Tryz.func37, Tryz.ntmps37
      go_wp2_with fail
      refine Calls.mono HR.out ?_
      rintro e w1 ⟨rfl, b1⟩
      go_wp2_with fail
      refine (HK.out _).mono ?_
      rintro e w2 ⟨rfl, rfl⟩
      obtain ⟨W3, hW3, X3, _⟩ := setRow_named (X1.below b1) #[.int .i64 0, .slice none 0 0]
      go_wp2_with ((with_reducible refine st_row (ty := 36) (X1.below b1) (infoPf2 _ _) (pfSame _ _ _ _) (pfOne _ _ _ _) hW3 ?_ ?_ ?_); rfl; rfl)
      refine bodyPost_ret (v := .tuple #[.agg #[.int .i64 0, .slice none 0 0], .int .i64 14]) (proveRecs_results X3 rfl rfl) rfl ?_
      exact ⟨fun hh => absurd h0 hh, fun _ _ => ⟨rfl, below_row (chain B1 b1) hW3 (by omega)⟩, fun _ hh => by rw [hk] at hh; cases hh⟩
    · rw [hk] at HK
      obtain ⟨hl4, hzz⟩ := riseR_ok h0
      have hri := rising_of h0
      go_enter Tryz.func37, Tryz.ntmps37
      go_wp2_with fail
      refine Calls.mono HR.out ?_
      rintro e w1 ⟨rfl, b1⟩
      go_wp2_with fail
      refine (HK.out _).mono ?_
      rintro e w2 ⟨rfl, rfl⟩
      have b2 := chain B1 b1
      have hBk := h.below b2
      have hr2 := hr.below b2
      have hlts := h.lts
      go_wp2_with fail
      rename World => wq
      refine (over_calls v l wq hr2 hBk hl4 (by omega) hzz).mono ?_
      rintro e w3 ⟨k, dv, ls, T1, rfl, hk1, hX, ho, hlv, G1⟩
      have ll := hlv.len
      have l1 := G1.len
      have z2 := b2.size
      have z3 := G1.off.size
      have X3 : Blk w3 w.heap.size #[.int .i64 0, .slice none 0 0] 36 := (X1.below b1).off2 G1.off (by omega) (by omega)
      go_wp2_with fail
      refine (prove_calls k v dv l ls key w3 hX (hr2.off2 hBk G1.off) hl4 hri hzz (lf_own ho) ll hlv.small G1.book (by omega)).mono ?_
      rintro e w4 ⟨r, L, T2, pv, cv, hsp, hpo, rfl, hown, hos, G2⟩
      have X4 : Blk w4 w.heap.size #[.int .i64 0, .slice none 0 0] 36 := X3.off2 G2.off (by omega) (by omega)
      obtain ⟨W5, hW5, X5, _⟩ := setRow_named X4 #[.int .i64 l.length, .slice pv L.length cv]
      go_wp2_with ((with_reducible refine st_row (ty := 36) X4 (infoPf2 _ _) (pfSame _ _ _ _) (pfOne _ _ _ _) hW5 ?_ ?_ ?_); rfl; rfl)
      refine bodyPost_ret (v := .tuple #[.agg #[.int .i64 l.length, .slice pv L.length cv], .int .i64 0]) (proveRecs_results X5 rfl rfl) rfl ?_
      have b1z := b1.size
      have G0 : Grew x y p b T S w 0 T wq := (Grew.refl h).below b2
      have GG := (G0.trans G1).trans G2
      refine ⟨fun hh => absurd h0 hh, fun _ hh => absurd (hk.symm.trans hh) (by decide), fun _ _ => ⟨r, L, ls, T2, pv, cv, hlv.ext G2.ext, hsp, hpo, rfl, ?_, fun q hq => ?_, ?_⟩⟩
      · rw [← hW5]; exact ownsRow_weakM (own_rowM hown (by omega)) (by omega)
      · rw [← hW5]; exact ownsRow_weakM (own_rowM (hos q hq) (by omega)) (by omega)
      · rw [← hW5]; exact (GG.row (by omega) (by omega) (by omega) (by omega) (by omega)).le (by omega)
  · obtain ⟨E, hE⟩ : ∃ E, riseR l = E := ⟨_, rfl⟩
    have hE0 : E ≠ 0 := by rw [← hE]; exact h0
    have d0 : decide (E = 0) = false := decide_eq_false hE0
    have d0' : (E == 0) = false := d0
    rw [hE] at HR
    go_enter Tryz.func37, Tryz.ntmps37
    go_wp2_with fail
    refine Calls.mono HR.out ?_
    rintro e w1 ⟨rfl, b1⟩
    obtain ⟨W3, hW3, X3, _⟩ := setRow_named (X1.below b1) #[.int .i64 0, .slice none 0 0]
    go_wp2_with ((with_reducible refine st_row (ty := 36) (X1.below b1) (infoPf2 _ _) (pfSame _ _ _ _) (pfOne _ _ _ _) hW3 ?_ ?_ ?_); rfl; rfl)
    refine bodyPost_ret (v := .tuple #[.agg #[.int .i64 0, .slice none 0 0], .int .i64 E]) (proveRecs_results X3 rfl rfl) rfl ?_
    exact ⟨fun _ => ⟨by rw [hE], below_row (chain B1 b1) hW3 (by omega)⟩, fun hh => absurd hh h0, fun hh => absurd hh h0⟩
end Go.Proofs.YtpcafjbebhcilaaGreat
