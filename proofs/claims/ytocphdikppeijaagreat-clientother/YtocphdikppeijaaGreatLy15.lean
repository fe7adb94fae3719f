/- A book seals and opens. -/
import Derived.Test.YtocphdikppeijaaGreatLy14
import Derived.Test.YtocphdikppeijaaGreatLy10
namespace Go.Proofs.YtocphdikppeijaaGreat
open Go.RowKit
set_option linter.unusedSimpArgs false
set_option linter.unusedVariables false
variable {p b x y : Nat} {T : List ByteArray} {S : List (Int × ByteArray)}

/-- Why a body has no bytes (0: it has), and its bytes. -/
def byE (d : Bd) : Int := if right d = 0 then (if 1048576 < (bdB d).length then 4 else 0) else right d
def byS (d : Bd) : ByteArray := if byE d = 0 then ⟨(bdB d).toArray⟩ else ⟨#[]⟩
theorem byE_ok {d : Bd} (h : byE d = 0) : right d = 0 ∧ ¬ 1048576 < (bdB d).length := by
  unfold byE at h
  by_cases h1 : right d = 0
  · rw [if_pos h1] at h
    by_cases h2 : 1048576 < (bdB d).length
    · rw [if_pos h2] at h; omega
    · exact ⟨h1, h2⟩
  · rw [if_neg h1] at h; exact absurd h h1
theorem bytesR_eq (d : Bd) : bytesR d = #[.string (byS d), .int .i64 (byE d)] := by
  unfold bytesR byS
  by_cases h1 : right d = 0
  · by_cases h2 : 1048576 < (bdB d).length
    · have : byE d = 4 := by unfold byE; rw [if_pos h1, if_pos h2]
      rw [this, if_pos h1, if_pos h2, if_neg (by decide)]
    · have : byE d = 0 := by unfold byE; rw [if_pos h1, if_neg h2]
      rw [this, if_pos h1, if_neg h2, if_pos rfl]
  · have : byE d = right d := by unfold byE; rw [if_neg h1]
    rw [this, if_neg h1, if_neg h1]
theorem byS_size (d : Bd) : (byS d).size ≤ 1048576 := by
  unfold byS
  split
  · rename_i h
    have := (byE_ok h).2
    show (bdB d).toArray.size ≤ _
    simp; omega
  · decide

def zeroSg : Sg := ⟨0, ⟨#[]⟩, ⟨#[]⟩⟩
/-- What Seal answers, and what is signed then. -/
def sealR (S : List (Int × ByteArray)) (who : Int) (d : Bd) : Sg × Int :=
  if byE d = 0 then (if isSg who = true then (⟨who, byS d, sgnB (num (note S (who, byS d)) (who, byS d))⟩, 0) else (zeroSg, 1)) else (zeroSg, byE d)
def sealS (S : List (Int × ByteArray)) (who : Int) (d : Bd) : List (Int × ByteArray) := if byE d = 0 then signS S who (byS d) else S
/-- What Open answers. -/
def openR (S : List (Int × ByteArray)) (m : Sg) : Except Int Bd := if chkB S m.frm m.body m.sig = true then ofR m.body else .error 30

theorem open_results {w' : World} {c0 c1 c2 c3 c4 c5 c6 c7 v : Value} {r : Nat} (X : Blk w' r #[c0, c1, c2, c3, c4, c5, c6, c7] 54) {t : Array Value} (h1 : t.getD 4 undef = .pointer (some ⟨r, 0, none⟩)) (h2 : t.getD 5 undef = v) :
    (results Tryz.f60 t).run Tryz.prog w' = .ok (.tuple #[.agg #[c0, c1, c2, c3, c4, c5, c6, c7], v]) w' := by
  have a0 := X.cell (o := 0) rfl
  have a1 := X.cell (o := 1) rfl
  have a2 := X.cell (o := 2) rfl
  have a3 := X.cell (o := 3) rfl
  have a4 := X.cell (o := 4) rfl
  have a5 := X.cell (o := 5) rfl
  have a6 := X.cell (o := 6) rfl
  have a7 := X.cell (o := 7) rfl
  simp only [Array.getD_eq_getD_getElem?] at h1 h2
  simp [results, Tryz.results60, go_sem, h1, h2, a0, a1, a2, a3, a4, a5, a6, a7]

theorem infoBody : (Tryz.prog.info? 54).map (·.size) = some 8 := by kernel_rfl
theorem sizeSigned : (Tryz.prog.info? 49).map (·.size) = some 3 := by kernel_rfl
/-- A body's cells. -/
def Bd.cells (d : Bd) (lv : Value) : Array Value := #[.int .i64 d.kind, .int .i64 d.view, .int .i64 d.seq, .int .i64 d.client, .int .i64 d.stamp, .string d.digest, .string d.text, lv]
theorem Bd.info (d : Bd) (lv : Value) : (Tryz.prog.info? 54).map (·.size) = some (d.cells lv).size := infoBody
theorem Bd.same (d d' : Bd) (lv lv' : Value) : (d.cells lv).size = (d'.cells lv').size := rfl
theorem Bd.one (d : Bd) (q : Option Addr) (n c : Nat) : (d.cells (.slice q n c)).all (·.oneCell') = true := by simp [Bd.cells, Value.oneCell']
def Sg.cells (m : Sg) : Array Value := #[.int .i64 m.frm, .string m.body, .string m.sig]

theorem Sg.info (m : Sg) : (Tryz.prog.info? 49).map (·.size) = some m.cells.size := sizeSigned
theorem Sg.same (m m' : Sg) : m.cells.size = m'.cells.size := rfl
theorem Sg.one (m : Sg) : m.cells.all (·.oneCell') = true := by simp [Sg.cells, Value.oneCell']
theorem seal_results {w' : World} {c0 c1 c2 v : Value} {r : Nat} (X : Blk w' r #[c0, c1, c2] 49) {t : Array Value} (h1 : t.getD 6 undef = .pointer (some ⟨r, 0, none⟩)) (h2 : t.getD 7 undef = v) :
    (results Tryz.f16 t).run Tryz.prog w' = .ok (.tuple #[.agg #[c0, c1, c2], v]) w' := by
  have a0 := X.cell (o := 0) rfl
  have a1 := X.cell (o := 1) rfl
  have a2 := X.cell (o := 2) rfl
  simp only [Array.getD_eq_getD_getElem?] at h1 h2
  simp [results, Tryz.results16, go_sem, h1, h2, a0, a1, a2]
theorem Book.row {w W : World} {k : Nat} {cs' : Array Value} (h : Book w p b x y T S) (hW : w.setRow k cs' = W) (hp : p ≠ k) (hb : b ≠ k) (hx : x ≠ k) (hy : y ≠ k) : Book W p b x y T S := by
  subst hW
  exact ⟨h.blk.setRowOther cs' hp, h.nums.blk.setRowOther cs' hb, (setRow_other w k x cs' hx).trans h.nums.mx, (setRow_other w k y cs' hy).trans h.nums.my, h.nums.ne⟩
theorem Off2.row {a b k : Nat} {w0 w W : World} {cs' : Array Value} (h : Off2 a b w0 w) (hW : w.setRow k cs' = W) (hk : w0.heap.size ≤ k) : Off2 a b w0 W := by
  subst hW
  exact ⟨h.os, h.tape, h.output, by simpa using h.size, fun j hj ha hb => (setRow_other w k j cs' (by omega)).trans (h.block j hj ha hb)⟩

set_option maxHeartbeats 1000000 in
set_option maxRecDepth 100000 in
theorem seal_calls (who : Int) (d : Bd) (q : Option Addr) (n c : Nat) (w : World) (h : Book w p b x y T S) (hS : S.length < 1000000) (h1 : d.digest.size ≤ maxLen) (h2 : d.text.size ≤ maxLen) (h3 : d.list.length < 9223372036854775807) (hl : Sgs w (.slice q n c) d.list) :
    Calls Tryz.prog 16 #[.pointer (some ⟨p, 0, none⟩), .int .i64 who, d.val (.slice q n c)] w fun e w' => e = .returned (.tuple #[(sealR S who d).1.val, .int .i64 (sealR S who d).2]) ∧ Book w' p b x y T (sealS S who d) ∧ Off2 x y w w' := by
  obtain ⟨W1, hW1, XM, XR, B1, Z1⟩ : ∃ W1, ((w.alloc (.cells #[.int .i64 d.kind, .int .i64 d.view, .int .i64 d.seq, .int .i64 d.client, .int .i64 d.stamp, .string d.digest, .string d.text, .slice q n c] 54)).alloc (.cells #[.int .i64 0, .string ⟨#[]⟩, .string ⟨#[]⟩] 49)) = W1 ∧ Blk W1 w.heap.size (d.cells (.slice q n c)) 54 ∧ Blk W1 (w.heap.size + 1) zeroSg.cells 49 ∧ Below w.heap.size w W1 ∧ W1.heap.size = w.heap.size + 2 :=
    ⟨_, rfl, (blk_new _ _ _ _ rfl).alloc _, blk_new _ _ _ _ (by simp), by go_grown, by simp⟩
  have hK1 := h.below B1
  have hlt := h.lts
  have hm := made_calls W1 hK1
  have hby := bytes_calls d (.slice q n c) W1 h1 h2 h3 (hl.below B1)
  rw [bytesR_eq] at hby
  have hz := byS_size d
  have hs := fun wx hx => bookSign_calls (T := T) (S := S) (p := p) (b := b) (x := x) (y := y) who (byS d) wx hx hS (by omega)
  have HS : Hid _ := hs
  clear hs
  have hval : d.val (.slice q n c) = .agg (d.cells (.slice q n c)) := rfl
  have hGi := Bd.info d (.slice q n c)
  rw [hval] at hby
  unfold sealR sealS Bd.val
  generalize d.cells (.slice q n c) = G at *
  by_cases he : byE d = 0
  · rw [if_pos he, if_pos he]
    rw [he] at hby
    have HB : Hid _ := hby
    clear hby
    unfold signR signS at HS
    unfold signS
    generalize byS d = s at *
    cases hw : isSg who
    · rw [hw] at HS
      simp only [Bool.false_eq_true, if_false] at HS ⊢
      go_enter Tryz.func16, Tryz.ntmps16
      go_wp2_with fail
      refine hm.mono ?_
      rintro e w1 ⟨rfl, rfl⟩
      go_wp2_with ((with_reducible refine rd_row (ty := 54) XM Tryz.underlying54 rfl hGi ?_ ?_); rfl)
      refine Calls.mono HB.out ?_
      rintro e w2 ⟨rfl, hb2⟩
      have hz2 := hb2.size
      have O2 : Off2 x y w w2 := Off2.of_below (B1.trans (hb2.mono (by omega)))
      go_wp2_with fail
      refine (HS.out _ (hK1.below hb2)).mono ?_
      rintro e w3 ⟨rfl, hK, ho⟩
      have X3 := (XR.below hb2).off2 ho (by omega) (by omega)
      obtain ⟨W9, hW9, X9, _⟩ := setRow_named X3 zeroSg.cells
      go_wp2_with ((with_reducible refine st_row (ty := 49) X3 (Sg.info _) (Sg.same _ _) (Sg.one _) hW9 ?_ ?_ ?_); rfl; rfl)
      refine bodyPost_ret (v := .tuple #[zeroSg.val, .int .i64 1]) (seal_results X9 rfl rfl) rfl ?_
      exact ⟨rfl, hK.row hW9 (by omega) (by omega) (by omega) (by omega), (O2.trans ho).row hW9 (by omega)⟩
    · rw [hw] at HS
      simp only [if_true] at HS ⊢
      obtain ⟨M, hM⟩ : ∃ M : Sg, (⟨who, s, sgnB (num (note S (who, s)) (who, s))⟩ : Sg) = M := ⟨_, rfl⟩
      go_enter Tryz.func16, Tryz.ntmps16
      go_wp2_with fail
      refine hm.mono ?_
      rintro e w1 ⟨rfl, rfl⟩
      go_wp2_with ((with_reducible refine rd_row (ty := 54) XM Tryz.underlying54 rfl hGi ?_ ?_); rfl)
      refine Calls.mono HB.out ?_
      rintro e w2 ⟨rfl, hb2⟩
      have hz2 := hb2.size
      have O2 : Off2 x y w w2 := Off2.of_below (B1.trans (hb2.mono (by omega)))
      go_wp2_with fail
      refine (HS.out _ (hK1.below hb2)).mono ?_
      rintro e w3 ⟨rfl, hK, ho⟩
      have X3 := (XR.below hb2).off2 ho (by omega) (by omega)
      obtain ⟨W9, hW9, X9, _⟩ := setRow_named X3 (Sg.cells ⟨who, s, sgnB (num (note S (who, s)) (who, s))⟩)
      go_wp2_with ((with_reducible refine st_row (ty := 49) X3 (Sg.info _) (Sg.same _ _) (Sg.one _) hW9 ?_ ?_ ?_); rfl; rfl)
      refine bodyPost_ret (v := .tuple #[Sg.val ⟨who, s, sgnB (num (note S (who, s)) (who, s))⟩, .int .i64 0]) (seal_results X9 rfl rfl) rfl ?_
      exact ⟨rfl, hK.row hW9 (by omega) (by omega) (by omega) (by omega), (O2.trans ho).row hW9 (by omega)⟩
  · rw [if_neg he, if_neg he]
    generalize byS d = s at *
    generalize byE d = E at *
    have HB : Hid _ := hby
    clear hby
    have hne : (E != 0) = true := by simpa using he
    go_enter Tryz.func16, Tryz.ntmps16
    go_wp2_with fail
    refine hm.mono ?_
    rintro e w1 ⟨rfl, rfl⟩
    go_wp2_with ((with_reducible refine rd_row (ty := 54) XM Tryz.underlying54 rfl hGi ?_ ?_); rfl)
    refine Calls.mono HB.out ?_
    rintro e w2 ⟨rfl, hb2⟩
    have hz2 := hb2.size
    have O2 : Off2 x y w w2 := Off2.of_below (B1.trans (hb2.mono (by omega)))
    have X3 := XR.below hb2
    obtain ⟨W9, hW9, X9, _⟩ := setRow_named X3 zeroSg.cells
    go_wp2_with ((with_reducible refine st_row (ty := 49) X3 (Sg.info _) (Sg.same _ _) (Sg.one _) hW9 ?_ ?_ ?_); rfl; rfl)
    refine bodyPost_ret (v := .tuple #[zeroSg.val, .int .i64 E]) (seal_results X9 rfl rfl) rfl ?_
    exact ⟨rfl, (hK1.below hb2).row hW9 (by omega) (by omega) (by omega) (by omega), O2.row hW9 (by omega)⟩

set_option maxHeartbeats 1000000 in
set_option maxRecDepth 100000 in
theorem open_calls (m : Sg) (w : World) (h : Book w p b x y T S) (hS : S.length < 1000000) (hb : m.body.size ≤ maxLen) :
    Calls Tryz.prog 60 #[.pointer (some ⟨p, 0, none⟩), m.val] w (ReadsO (openR S m) w) := by
  obtain ⟨W1, hW1, XM, XR, B1, Z1⟩ : ∃ W1, ((w.alloc (.cells #[.int .i64 m.frm, .string m.body, .string m.sig] 49)).alloc (.cells #[.int .i64 0, .int .i64 0, .int .i64 0, .int .i64 0, .int .i64 0, .string ⟨#[]⟩, .string ⟨#[]⟩, .slice none 0 0] 54)) = W1 ∧ Blk W1 w.heap.size m.cells 49 ∧ Blk W1 (w.heap.size + 1) (zeroBd.cells (.slice none 0 0)) 54 ∧ Below w.heap.size w W1 ∧ W1.heap.size = w.heap.size + 2 :=
    ⟨_, rfl, (blk_new _ _ _ _ rfl).alloc _, blk_new _ _ _ _ (by simp), by go_grown, by simp⟩
  have h1 := h.below B1
  have hm := made_calls W1 h1
  have hc := bookCheck_calls m.frm m.body m.sig W1 h1 hS
  have ho := fun wx => of_calls m.body wx hb
  have HO : Hid _ := ho
  clear ho
  have e0 : W1.cell? ⟨w.heap.size, 0, none⟩ = some (.int .i64 m.frm) := XM.cell rfl
  have e1 : W1.cell? ⟨w.heap.size, 1, none⟩ = some (.string m.body) := XM.cell rfl
  have e2 : W1.cell? ⟨w.heap.size, 2, none⟩ = some (.string m.sig) := XM.cell rfl
  unfold openR
  cases hk : chkB S m.frm m.body m.sig
  · rw [hk] at hc
    unfold Sg.val
    rw [if_neg (by decide)]
    go_enter Tryz.func60, Tryz.ntmps60
    go_wp2_with fail
    refine hm.mono ?_
    rintro e w1 ⟨rfl, rfl⟩
    go_wp2_with fail
    refine hc.mono ?_
    rintro e w2 ⟨rfl, hb2⟩
    have X2 := XR.below hb2
    obtain ⟨W3, hW3, X3, _⟩ := setRow_named X2 (zeroBd.cells (.slice none 0 0))
    go_wp2_with ((with_reducible refine st_row (ty := 54) X2 (Bd.info _ _) (Bd.same _ _ _ _) (Bd.one _ _ _ _) hW3 ?_ ?_ ?_); rfl; rfl)
    refine bodyPost_ret (v := .tuple #[zeroBd.val (.slice none 0 0), .int .i64 30]) (open_results X3 rfl rfl) rfl ?_
    exact ⟨rfl, below_row (B1.trans (hb2.mono (by omega))) hW3 (by omega)⟩
  · rw [hk] at hc
    unfold Sg.val
    rw [if_pos rfl]
    generalize ofR m.body = R at *
    cases R with
    | error er =>
      go_enter Tryz.func60, Tryz.ntmps60
      go_wp2_with fail
      refine hm.mono ?_
      rintro e w1 ⟨rfl, rfl⟩
      go_wp2_with fail
      refine hc.mono ?_
      rintro e w2 ⟨rfl, hb2⟩
      have g1 : w2.cell? ⟨w.heap.size, 1, none⟩ = some (.string m.body) := (XM.below hb2).cell rfl
      go_wp2_with fail
      refine (HO.out _).mono ?_
      rintro e w3 ⟨rfl, hb3⟩
      have X3 := (XR.below hb2).below hb3
      obtain ⟨W4, hW4, X4, _⟩ := setRow_named X3 (zeroBd.cells (.slice none 0 0))
      unfold Bd.val
      go_wp2_with ((with_reducible refine st_row (ty := 54) X3 (Bd.info _ _) (Bd.same _ _ _ _) (Bd.one _ _ _ _) hW4 ?_ ?_ ?_); rfl; rfl)
      have hz2 := hb2.size
      refine bodyPost_ret (v := .tuple #[zeroBd.val (.slice none 0 0), .int .i64 er]) (open_results X4 rfl rfl) rfl ?_
      exact ⟨rfl, below_row ((B1.trans (hb2.mono (by omega))).trans (hb3.mono (by omega))) hW4 (by omega)⟩
    | ok d =>
      go_enter Tryz.func60, Tryz.ntmps60
      go_wp2_with fail
      refine hm.mono ?_
      rintro e w1 ⟨rfl, rfl⟩
      go_wp2_with fail
      refine hc.mono ?_
      rintro e w2 ⟨rfl, hb2⟩
      have g1 : w2.cell? ⟨w.heap.size, 1, none⟩ = some (.string m.body) := (XM.below hb2).cell rfl
      go_wp2_with fail
      refine (HO.out _).mono ?_
      rintro e w3 ⟨lv, rfl, hown, hb3⟩
      obtain ⟨pp, cp, rfl⟩ := sgs_of_own' hown
      have X3 := (XR.below hb2).below hb3
      obtain ⟨W4, hW4, X4, q1, q2, q3, q4, q5⟩ := setRow_named X3 (d.cells (.slice pp d.list.length cp))
      unfold Bd.val
      go_wp2_with ((with_reducible refine st_row (ty := 54) X3 (Bd.info _ _) (Bd.same _ _ _ _) (Bd.one _ _ _ _) hW4 ?_ ?_ ?_); rfl; rfl)
      have hz2 := hb2.size
      have hz3 := hb3.size
      have oW : Off (w.heap.size + 1) w3 W4 := hW4 ▸ (Off.refl _ w3).setRow _
      have hown4 : W4.ownsRow w.heap.size 49 3 (.slice pp d.list.length cp) d.list.length (sgCells d.list) := ownsRow_weak (base := w2.heap.size) (hown.kept oW.by (Or.inr (fun e => by have := (hown.lt _ e).1; omega))) (by omega)
      refine bodyPost_ret (v := .tuple #[d.val (.slice pp d.list.length cp), .int .i64 0]) (open_results X4 rfl rfl) rfl ?_
      exact ⟨_, rfl, hown4, below_row ((B1.trans (hb2.mono (by omega))).trans (hb3.mono (by omega))) hW4 (by omega)⟩
end Go.Proofs.YtocphdikppeijaaGreat
