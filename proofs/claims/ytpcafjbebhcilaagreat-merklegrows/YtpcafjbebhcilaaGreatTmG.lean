/- A tree's Prove and Records. -/
import Derived.Test.YtpcafjbebhcilaaGreatTm46
import Derived.Test.YtpcafjbebhcilaaGreatTmTZ
import Derived.Lib.SliceRun
namespace Go.Proofs.YtpcafjbebhcilaaGreat
open Go.RowKit
set_option linter.unusedSimpArgs false
set_option linter.unusedVariables false
variable {p b x y : Nat} {T : List ByteArray} {S : List (Int × ByteArray)}
variable {B k : Nat} {lv dv : Value} {l : List Rc} {w w' : World}

theorem treeProve_results {w' : World} {c0 c1 v : Value} {r : Nat} (X : Blk w' r #[c0, c1] 36) {t : Array Value} (h1 : t.getD 4 undef = .pointer (some ⟨r, 0, none⟩)) (h2 : t.getD 5 undef = v) :
    (results Tryz.f11 t).run Tryz.prog w' = .ok (.tuple #[.agg #[c0, c1], v]) w' := by
  have a0 := X.cell (o := 0) rfl
  have a1 := X.cell (o := 1) rfl
  simp only [Array.getD_eq_getD_getElem?] at h1 h2
  simp [results, Tryz.results11, go_sem, h1, h2, a0, a1]
set_option maxHeartbeats 4000000 in
set_option maxRecDepth 100000 in
theorem treeProve_bad (key : ByteArray) (w : World) (h : Tre w B k p b x y T S l lv dv) (hk : isK key = false) :
    Calls Tryz.prog 11 #[.pointer (some ⟨k, 0, none⟩), .string key] w fun e w' => e = .returned (.tuple #[.agg #[.int .i64 0, .slice none 0 0], .int .i64 14]) ∧ Below w.heap.size w w' := by
  obtain ⟨W1, hW1, X1, B1, Z1⟩ : ∃ W1, w.alloc (.cells #[.int .i64 0, .slice none 0 0] 36) = W1 ∧ Blk W1 w.heap.size #[.int .i64 0, .slice none 0 0] 36 ∧ Below w.heap.size w W1 ∧ W1.heap.size = w.heap.size + 1 :=
    ⟨_, rfl, blk_new _ _ _ _ rfl, by go_grown, by simp⟩
  have HM : Hid _ := madeT_calls p lv dv W1 (h.below B1).blk
  have HK : Hid _ := isKey_calls key
  rw [hk] at HK
  clear h hk
  go_enter Tryz.func11, Tryz.ntmps11
  go_wp2_with fail
  refine Calls.mono HM.out ?_
  rintro e w1 ⟨rfl, rfl⟩
  go_wp2_with fail
  refine (HK.out _).mono ?_
  rintro e w2 ⟨rfl, rfl⟩
  obtain ⟨W3, hW3, X3, _⟩ := setRow_named X1 #[.int .i64 0, .slice none 0 0]
  go_wp2_with ((with_reducible refine st_row (ty := 36) X1 (infoPf2 _ _) (pfSame _ _ _ _) (pfOne _ _ _ _) hW3 ?_ ?_ ?_); rfl; rfl)
  refine bodyPost_ret (v := .tuple #[.agg #[.int .i64 0, .slice none 0 0], .int .i64 14]) (treeProve_results X3 rfl rfl) rfl ?_
  exact ⟨rfl, below_row B1 hW3 (by omega)⟩
set_option maxHeartbeats 4000000 in
set_option maxRecDepth 100000 in
theorem treeProve_calls (key : ByteArray) (w : World) (h : Tre w B k p b x y T S l lv dv) (hl : l.length ≤ 4096) (hT : T.length < 900000) (hk : isK key = true) :
    Calls Tryz.prog 11 #[.pointer (some ⟨k, 0, none⟩), .string key] w fun e w' => ∃ (r : Nat) (L : List (Pt × Value)) (ls T' : List ByteArray) (pv : Option Addr) (cv : Nat), Lvs T' l ls ∧ Spot l key r ∧ PathsOk T' l ls key r (L.map Prod.fst) ∧ e = .returned (.tuple #[.agg #[.int .i64 l.length, .slice pv L.length cv], .int .i64 0]) ∧ w'.ownsRow w.heap.size 80 4 (.slice pv L.length cv) L.length (ptC L) ∧ (∀ q ∈ L, w'.ownsRow w.heap.size 9 1 q.2 q.1.sides.length (txC q.1.sides)) ∧ Grew x y p b T S w (2 * l.length) T' w' := by
  obtain ⟨W1, hW1, X1, B1, Z1⟩ : ∃ W1, w.alloc (.cells #[.int .i64 0, .slice none 0 0] 36) = W1 ∧ Blk W1 w.heap.size #[.int .i64 0, .slice none 0 0] 36 ∧ Below w.heap.size w W1 ∧ W1.heap.size = w.heap.size + 1 :=
    ⟨_, rfl, blk_new _ _ _ _ rfl, by go_grown, by simp⟩
  have T1 := h.below B1
  have HM : Hid _ := madeT_calls p lv dv W1 T1.blk
  have HK : Hid _ := isKey_calls key
  rw [hk] at HK
  obtain ⟨ls, od, hlv⟩ := T1.lvs
  have HP : Hid _ := prove_calls k lv dv l ls key W1 T1.blk T1.rcs hl T1.rise T1.fit (lf_own od) hlv.len hlv.small T1.book (by omega)
  have HLV : Hid _ := hlv
  have HB : Hid _ := h.book
  have hlts := h.book.lts
  clear h hk T1 od hlv
  go_enter Tryz.func11, Tryz.ntmps11
  go_wp2_with fail
  refine Calls.mono HM.out ?_
  rintro e w1 ⟨rfl, rfl⟩
  go_wp2_with fail
  refine (HK.out _).mono ?_
  rintro e w2 ⟨rfl, rfl⟩
  go_wp2_with fail
  refine Calls.mono HP.out ?_
  rintro e w4 ⟨r, L, T2, pv, cv, hsp, hpo, rfl, hown, hos, G2⟩
  have X4 : Blk w4 w.heap.size #[.int .i64 0, .slice none 0 0] 36 := X1.off2 G2.off (by omega) (by omega)
  obtain ⟨W5, hW5, X5, _⟩ := setRow_named X4 #[.int .i64 l.length, .slice pv L.length cv]
  go_wp2_with ((with_reducible refine st_row (ty := 36) X4 (infoPf2 _ _) (pfSame _ _ _ _) (pfOne _ _ _ _) hW5 ?_ ?_ ?_); rfl; rfl)
  refine bodyPost_ret (v := .tuple #[.agg #[.int .i64 l.length, .slice pv L.length cv], .int .i64 0]) (treeProve_results X5 rfl rfl) rfl ?_
  have G0 : Grew x y p b T S w 0 T w2 := (Grew.refl HB.out).below B1
  have GG := G0.trans G2
  refine ⟨r, L, ls, T2, pv, cv, Lvs.ext G2.ext HLV.out, hsp, hpo, rfl, ?_, fun q hq => ?_, ?_⟩
  · rw [← hW5]; exact ownsRow_weakM (own_rowM hown (by omega)) (by omega)
  · rw [← hW5]; exact ownsRow_weakM (own_rowM (hos q hq) (by omega)) (by omega)
  · rw [← hW5]; exact (GG.row (by omega) (by omega) (by omega) (by omega) (by omega)).le (by omega)

set_option maxHeartbeats 4000000 in
set_option maxRecDepth 100000 in
theorem cloneR_calls (v : Value) (l : List Rc) (D : Nat) (w : World) (h : w.ownsRow D 47 2 v l.length (rcCells l)) (hl : l.length ≤ 4096) :
    Calls Tryz.prog 39 #[v] w fun e w' => ∃ v', e = .returned v' ∧ w'.ownsRow w.heap.size 47 2 v' l.length (rcCells l) ∧ Below w.heap.size w w' := by
  obtain ⟨i0, hi, hz0, hz1, hz2⟩ := info_parts infoRcd
  rcases h.2 with ⟨rfl, h0⟩ | ⟨g, cap, cur, rfl, _, _⟩
  · have hl0 : l = [] := List.eq_nil_of_length_eq_zero h0
    subst hl0
    clear h
    have hq : ∀ w, (binOp .eql 27 (.slice none 0 0) (.slice none 0 0)).run Tryz.prog w = .ok (.bool true) w := fun w => Lib.run_eql_slice_nil w 27 47 none 0 0 0 0 Tryz.underlying27
    go_enter Tryz.func39, Tryz.ntmps39
    go_wp2
    go_ret
    exact ⟨_, rfl, World.ownsRow_nil _ _ _ _, Below.refl _ _⟩
  · have hc := h.cells (g := g) rfl
    have HC : Hid (∀ j u, (rcCells l)[j]? = some u → (w.alloc (.cells #[] 47)).cell? ((⟨g, 0, none⟩ : Addr).add j) = some u) := fun j u hj => keepCell ((Below.refl _ _).alloc (Nat.le_refl _) _) (hc j u hj)
    have HO : Hid ((w.alloc (.cells #[] 47)).ownsRow w.heap.size 47 2 (.slice (some ⟨w.heap.size, 0, none⟩) 0 0) 0 []) := World.ownsRow_made w #[] 0 (Nat.le_refl _) (by decide) rfl
    have HN : Hid (0 + l.length ≤ maxLen ∧ (0 + l.length) * 32 ≤ 140737488355328 ∧ w.heap.size ≤ (w.alloc (.cells #[] 47)).heap.size) := ⟨by unfold maxLen; omega, by omega, by simp⟩
    clear h hc
    have hq : ∀ w, (binOp .eql 27 (.slice (some ⟨g, 0, none⟩) l.length cap) (.slice none 0 0)).run Tryz.prog w = .ok (.bool false) w := fun w => Lib.run_eql_slice_nil w 27 47 (some ⟨g, 0, none⟩) l.length cap 0 0 Tryz.underlying27
    go_enter Tryz.func39, Tryz.ntmps39
    go_wp2_with (at_builtin; refine wpList_append_own _ rfl _ _ 27 rfl w.heap.size 47 i0 (.agg #[.string ⟨#[]⟩, .string ⟨#[]⟩]) 2 32 Tryz.underlying27 hi hz0 hz1 hz2 rfl (by decide) _ _ _ rfl HO.out ⟨g, 0, none⟩ l.length cap (rcCells l) rfl (rcCells_len l) HC.out (rcCells_one l) HN.out.1 HN.out.2.1 HN.out.2.2 ?_)
    intro v' w' own' gr' _
    have B' : Below w.heap.size w w' := below_grown ((Below.refl _ w).alloc (Nat.le_refl _) _) gr' (fun q hq => ((HO.out).lt q hq).1) (by simp)
    obtain ⟨oa, oc, rfl⟩ := own_sliceM own'
    have HO2 : Hid _ := own'
    clear own' gr'
    go_wp2
    go_ret
    exact ⟨_, rfl, HO2.out, B'⟩
set_option maxHeartbeats 4000000 in
set_option maxRecDepth 100000 in
theorem treeRecords_calls (w : World) (h : Tre w B k p b x y T S l lv dv) (hl : l.length ≤ 4096) :
    Calls Tryz.prog 14 #[.pointer (some ⟨k, 0, none⟩)] w fun e w' => ∃ v', e = .returned v' ∧ w'.ownsRow w.heap.size 47 2 v' l.length (rcCells l) ∧ Below w.heap.size w w' := by
  have HM : Hid _ := madeT_calls p lv dv w h.blk
  have c1 : w.cell? ⟨k, 1, none⟩ = some lv := h.blk.cell rfl
  have HC : Hid _ := cloneR_calls lv l B w h.rows hl
  obtain ⟨la, lc, rfl⟩ := own_sliceM h.rows
  clear h
  go_enter Tryz.func14, Tryz.ntmps14
  go_wp2_with fail
  refine Calls.mono HM.out ?_
  rintro e w1 ⟨rfl, rfl⟩
  go_wp2_with fail
  refine Calls.mono HC.out ?_
  rintro e w2 ⟨v', rfl, o2, b2⟩
  obtain ⟨oa, oc, rfl⟩ := own_sliceM o2
  go_wp2
  go_ret
  exact ⟨_, rfl, o2, b2⟩
/-- A tree stays where another row is written. -/
theorem Tre.off {g : Nat} (h : Tre w B k p b x y T S l lv dv) (o : Off g w w') (h1 : g ≠ k) (h2 : g ≠ p ∧ g ≠ b ∧ g ≠ x ∧ g ≠ y) (h3 : lv.ownBlock ≠ some g) (h4 : dv.ownBlock ≠ some g) : Tre w' B k p b x y T S l lv dv := by
  obtain ⟨ls, od, hlv⟩ := h.lvs
  exact ⟨h.blk.off o (fun e => h1 e.symm), World.ownsRow.kept h.rows o.byM (Or.inr h3), ⟨ls, World.ownsRow.kept od o.byM (Or.inr h4), hlv⟩, h.book.grown o.byM ⟨by simpa using h2.1, by simpa using h2.2.1, by simpa using h2.2.2.1, by simpa using h2.2.2.2⟩, h.rise, h.fit, h.kB, Nat.le_trans h.BW o.size, h.away⟩
end Go.Proofs.YtpcafjbebhcilaaGreat
