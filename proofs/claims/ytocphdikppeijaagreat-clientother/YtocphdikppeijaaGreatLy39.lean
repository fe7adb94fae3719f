/- Messages that are made of a body, and what is read of them; bodies of proofs and of checkpoints. -/
import Derived.Test.YtocphdikppeijaaGreatLy15
import Derived.Test.YtocphdikppeijaaGreatLy34
import Derived.Test.YtocphdikppeijaaGreatLy14
import Derived.Deep.RegionHeldLaw
import Derived.Deep.RegionHeld3
import Derived.Test.YtocphdikppeijaaGreatLy03
import Derived.Test.YtocphdikppeijaaGreatLy04
import Derived.Test.YtocphdikppeijaaGreatLy18
import Derived.Test.YtocphdikppeijaaGreatLy16
import Derived.Test.YtocphdikppeijaaGreatLy08
namespace Go.Proofs.YtocphdikppeijaaGreat
open Go.RowKit
set_option linter.unusedSimpArgs false
set_option linter.unusedVariables false

theorem wrapC {a : Int} (h0 : -9223372036854775808 ≤ a) (h1 : a < 9223372036854775808) : IntKind.i64.wrap a = a := by
  rw [IntKind.wrap_i64]; omega
/-- A message of one's own: who signs, the body, and what it becomes. -/
def sgM (S : List (Int × ByteArray)) (who : Int) (d : Bd) : Sg := ⟨who, byS d, sgnB (num (note S (who, byS d)) (who, byS d))⟩
theorem sgM_ok (S : List (Int × ByteArray)) (who : Int) (d : Bd) (hw : isSg who = true) : sgOk (sgM S who d) = true := by
  have h1 := byS_size d
  have h2 := sgnB_size (num (note S (who, byS d)) (who, byS d))
  unfold isSg at hw
  unfold sgOk sgM
  simp only [Bool.and_eq_true, decide_eq_true_eq] at hw ⊢
  omega
theorem note_mem {α : Type} [DecidableEq α] (l : List α) (k : α) : k ∈ note l k := by
  by_cases h : k ∈ l
  · rw [note_old h]; exact h
  · rw [note_new h]; simp
theorem open_sgM (S : List (Int × ByteArray)) (who : Int) (d : Bd) (hw : isSg who = true) (he : byE d = 0) : openR (note S (who, byS d)) (sgM S who d) = .ok d := by
  have hm : isIn (note S (who, byS d)) (who, byS d) = true := (isIn_iff _ _).2 (note_mem _ _)
  have h := byE_ok he
  unfold openR chkB chk sgM
  simp only [hw, hm, decide_true, Bool.and_self, if_true]
  unfold byS
  rw [if_pos he]
  exact of_bytes d h.1 (by omega)
theorem of_sgM (S : List (Int × ByteArray)) (who : Int) (d : Bd) (hw : isSg who = true) : ofSgR ⟨(sgB (sgM S who d)).toArray⟩ = .ok (sgM S who d) := ofSg_bytes _ (sgM_ok S who d hw)

/-- The body that carries a proof, and that of a checkpoint. -/
def prB (n : Int) (r t : ByteArray) (l : List Sg) : Bd := ⟨13, 0, n, 0, 0, r, t, l⟩
def ckB (n : Int) (r : ByteArray) : Bd := ⟨5, 0, n, 0, 0, r, ⟨#[]⟩, []⟩
theorem flds_pr (n : Int) (r t : ByteArray) (l : List Sg) : flds (prB n r t l) = (n != 0).toNat * 2 + (!r.toList.isEmpty).toNat * 16 + (!t.toList.isEmpty).toNat * 32 + (decide (0 < l.length)).toNat * 64 := by
  unfold flds prB
  simp
theorem isEmpty_of {r : ByteArray} (h : 1 ≤ r.size) : r.toList.isEmpty = false := by
  rw [ByteArray.toList_eq]
  cases e : r.data.toList with
  | nil =>
    have h2 : r.size = r.data.toList.length := by rw [Array.length_toList]; rfl
    rw [e, List.length_nil] at h2; omega
  | cons _ _ => rfl
theorem pr_right (n : Int) (r t : ByteArray) (l : List Sg) (hn : 0 < n ∧ n ≤ 1073741824 ∧ n.tmod 4 = 0) (hr : 1 ≤ r.size ∧ r.size ≤ 32) (ht : t.size ≤ 1048576) (hl : l.length ≤ 64) (ho : l.all sgOk = true) :
    right (prB n r t l) = if l = [] then 14 else 0 := by
  have h1 : shape (prB n r t l).kind = some ⟨114, 82, 15, 4, 1048576, 64⟩ := rfl
  unfold right
  rw [h1]
  have e1 : (n != 0) = true := by simp; omega
  have e2 := isEmpty_of hr.1
  have h3 : fitsN (prB n r t l) ⟨114, 82, 15, 4, 1048576, 64⟩ = true := by
    unfold fitsN prB
    simp only [Bool.and_eq_true, decide_eq_true_eq, beq_iff_eq]
    refine ⟨⟨⟨⟨⟨by omega, by omega⟩, by omega, by omega⟩, ?_⟩, by omega, by decide⟩, by omega, by omega⟩
    exact hn.2.2
  have h4 : fitsT (prB n r t l) ⟨114, 82, 15, 4, 1048576, 64⟩ = true := by
    unfold fitsT prB
    simp only [Bool.and_eq_true, decide_eq_true_eq]
    exact ⟨⟨⟨hr.2, ht⟩, hl⟩, ho⟩
  have h2 : badBits (prB n r t l) ⟨114, 82, 15, 4, 1048576, 64⟩ = decide (l = []) := by
    unfold badBits
    rw [flds_pr, e1, e2]
    generalize (!t.toList.isEmpty) = u
    cases l with
    | nil => cases u <;> decide +kernel
    | cons a l =>
      rw [decide_eq_true (show 0 < (a :: l).length by simp), decide_eq_false (show ¬ a :: l = [] by simp)]
      cases u <;> decide +kernel
  simp only [h2, h3, h4]
  by_cases e : l = []
  · simp [e]
  · simp [e]
theorem ck_right (n : Int) (r : ByteArray) (hn : 0 < n ∧ n ≤ 1073741824 ∧ n.tmod 4 = 0) (hr : 1 ≤ r.size ∧ r.size ≤ 32) : right (ckB n r) = 0 := by
  have h1 : shape (ckB n r).kind = some ⟨18, 18, 15, 4, 1048576, 64⟩ := rfl
  unfold right
  rw [h1]
  have e1 : (n != 0) = true := by simp; omega
  have e2 := isEmpty_of hr.1
  have h3 : fitsN (ckB n r) ⟨18, 18, 15, 4, 1048576, 64⟩ = true := by
    unfold fitsN ckB
    simp only [Bool.and_eq_true, decide_eq_true_eq, beq_iff_eq]
    refine ⟨⟨⟨⟨⟨by omega, by omega⟩, by omega, by omega⟩, ?_⟩, by omega, by decide⟩, by omega, by omega⟩
    exact hn.2.2
  have h4 : fitsT (ckB n r) ⟨18, 18, 15, 4, 1048576, 64⟩ = true := by
    unfold fitsT ckB
    simp only [Bool.and_eq_true, decide_eq_true_eq]
    exact ⟨⟨⟨hr.2, by decide⟩, by decide⟩, rfl⟩
  have h2 : badBits (ckB n r) ⟨18, 18, 15, 4, 1048576, 64⟩ = false := by
    unfold badBits
    have : flds (ckB n r) = 18 := by
      have : flds (ckB n r) = (n != 0).toNat * 2 + (!r.toList.isEmpty).toNat * 16 := by unfold flds ckB; simp
      rw [this, e1, e2]
      rfl
    rw [this]
    decide +kernel
  simp only [h2, h3, h4]
  rfl
theorem pr_len (n : Int) (r t : ByteArray) (l : List Sg) (hr : r.size ≤ 32) (ht : t.size ≤ 20000) (hl : (sgsB l).length ≤ 500000) : (bdB (prB n r t l)).length ≤ 600000 := by
  unfold bdB prB
  simp only [List.length_append]
  have h0 := enc_le (13 : Int).toNat
  have h1 := enc_le (0 : Int).toNat
  have h2 := enc_le n.toNat
  have h4 := txtB_len r
  have h5 := txtB_len t
  have h6 := enc_le l.length
  omega
theorem ck_len (n : Int) (r : ByteArray) (hr : r.size ≤ 32) : (bdB (ckB n r)).length ≤ 400 := by
  unfold bdB ckB
  simp only [List.length_append, List.length_nil]
  have h0 := enc_le (5 : Int).toNat
  have h1 := enc_le (0 : Int).toNat
  have h2 := enc_le n.toNat
  have h4 := txtB_len r
  have h5 := txtB_len ⟨#[]⟩
  have h6 := enc_le 0
  have h7 : (sgsB []).length = 0 := rfl
  have h8 : (⟨#[]⟩ : ByteArray).size = 0 := rfl
  omega
theorem byE_len {d : Bd} (h : right d = 0) (hl : (bdB d).length ≤ 1048576) : byE d = 0 := by
  unfold byE
  rw [if_pos h, if_neg (by omega)]
theorem seal_sgM (S : List (Int × ByteArray)) (who : Int) (d : Bd) (hw : isSg who = true) (he : byE d = 0) : sealR S who d = (sgM S who d, 0) ∧ sealS S who d = note S (who, byS d) := by
  refine ⟨?_, ?_⟩
  · unfold sealR; rw [if_pos he, hw]; rfl
  · unfold sealS signS; rw [if_pos he, hw]; rfl
end Go.Proofs.YtocphdikppeijaaGreat

namespace Go.Proofs.YtocphdikppeijaaGreat
open Go.RowKit
set_option linter.unusedSimpArgs false
set_option linter.unusedVariables false

/-! A store of a whole row as the next step of a held region. -/
theorem step_ifC {P : Program} {ops : Array Oper} {o : Oper} {a : Act} {w : World} {K : Act → World → Prop} {Q : Exit → Act → World → Prop} {E : Prop} (hg : o.guard = none) (h : Oper.wp P o a w K Q) :
    if Region.wanted o (yielded ops a.tmps) = true then Oper.wp P o a w K Q else E := by
  have hw : Region.wanted o (yielded ops a.tmps) = true := by simp [Region.wanted, hg]
  rw [if_pos hw]; exact h

theorem wp_store_rowN {P : Program} {type : TypeId} {pos : String} {after : Array Edge} {guard : Option (Nat × Bool)} {a : Act} {w : World} {K : Act → World → Prop} {Q : Exit → Act → World → Prop} {ty : TypeId} {x y : Operand} (g : Nat) (cells : Array Value) (hx : a.eval x = .pointer (some ⟨g, 0, none⟩)) (hy : a.eval y = .agg cells) (t : TypeId) (old : Array Value) (hg : w.heap[g]? = some (.cells old t (0, 0))) (hi : (P.info? ty).map (·.size) = some cells.size) (hold : old.size = cells.size) (h1 : cells.all (·.oneCell') = true) (h : K a (w.setRow g cells)) : Oper.wp P { dst := none, op := .store ty x y, type := type, pos := pos, after := after, guard := guard } a w K Q :=
  wp_store_row ty x y rfl g cells hx hy t old hg hi hold h1 h
theorem readyH_rowC {P : Program} {md : Region.Mode} {ops : Array Oper} {Q : Exit → Act → World → Prop} {S : World → Prop} {fuel : Nat} {listed : Array Bool} {a : Act} {w : World} (i : Nat) {o : Oper} (ho : ops[i]? = some o) {ty : TypeId} {x y : Operand} (hop : o.op = .store ty x y) (hd : o.dst = none) (hgd : o.guard = none) (g : Nat) (cells : Array Value) (hx : a.eval x = .pointer (some ⟨g, 0, none⟩)) (hy : a.eval y = .agg cells) (t : TypeId) (old : Array Value) (hg : w.heap[g]? = some (.cells old t (0, 0))) (hi : (P.info? ty).map (·.size) = some cells.size) (hold : old.size = cells.size) (h1 : cells.all (·.oneCell') = true) (hS : S (w.setRow g cells)) (h : S (w.setRow g cells) → wpAnyH P md ops Q S fuel (listed.setIfInBounds i true) a (w.setRow g cells)) : AllReadyH P md ops Q S fuel listed a w [i] := by
  obtain ⟨dst, op, type, pos, after, guard⟩ := o
  simp only at hop hd hgd
  subst hop hd hgd
  exact AllReadyH.cons ho (fun K hK => step_ifC rfl (wp_store_rowN g cells hx hy t old hg hi hold h1 (hK.out _ _ hS h))) AllReadyH.nil
end Go.Proofs.YtocphdikppeijaaGreat

namespace Go.Proofs.YtocphdikppeijaaGreat
open Go.RowKit
set_option linter.unusedVariables false
set_option linter.unusedSimpArgs false

theorem laid_txt (t : ByteArray) (w : World) (ht : t.size ≤ 100000000000) :
    Calls Tryz.prog 45 #[.string t] w fun e w' => e = .returned (.string ⟨(txtB t).toArray⟩) ∧ Below w.heap.size w w' := laid_ref t w ht
end Go.Proofs.YtocphdikppeijaaGreat

namespace Go.Proofs.YtocphdikppeijaaGreat
open Go.RowKit
set_option linter.unusedVariables false
set_option linter.unusedSimpArgs false

set_option maxRecDepth 100000 in
set_option maxHeartbeats 2000000 in
theorem proofFits_ref (x : Pf) (lv : Value) (w : World) (hs : Pts w lv x.paths) :
    Calls Tryz.prog 43 #[x.val lv] w fun e w' => e = .returned (.bool (pfOk x)) ∧ Below w.heap.size w w' := by
  obtain ⟨p, c, rfl⟩ := hs.len
  have HS : Hid _ := hs
  clear hs
  unfold Pf.val
  by_cases e0 : 0 ≤ x.cnt
  · have g0 : decide (x.cnt < 0) = false := by simp only [decide_eq_false_iff_not]; omega
    by_cases e1 : x.cnt ≤ 4096
    · have g1 : decide (4096 < x.cnt) = false := by simp only [decide_eq_false_iff_not]; omega
      by_cases e3 : x.paths.length ≤ 2
      · have dp : decide ((2 : Int) < (x.paths.length : Int)) = false := by simp only [decide_eq_false_iff_not]; omega
        have hfin : Hid (pfOk x = x.paths.all ptOk) := by show _ = _; unfold pfOk; rw [decide_eq_true (show 0 ≤ x.cnt ∧ x.cnt ≤ 4096 from ⟨e0, e1⟩), decide_eq_true e3]; simp
        have X0 := blk_new w w.heap.size #[.int .i64 x.cnt, .slice p x.paths.length c] 45 rfl
        go_enter Tryz.func43, Tryz.ntmps43
        go_wp2
        go_loopw [3] (fun i wr => ∃ k : Nat, k ≤ x.paths.length ∧ i = .int .i64 k ∧ Hid (pfOk x = (x.paths.drop k).all ptOk) ∧ Below w.heap.size w wr ∧ Blk wr w.heap.size #[.int .i64 x.cnt, .slice p x.paths.length c] 45) (fun i _ => x.paths.length - (intOf i).toNat)
        case atStart => exact ⟨0, Nat.zero_le _, rfl, hfin, by go_grown, X0⟩
        case round =>
          obtain ⟨k, hk, rfl, hR, hb, X1⟩ := hrel
          clear hfin X0
          have q0 := X1.cell (o := 0) rfl
          have q1 := X1.cell (o := 1) rfl
          by_cases hlt : k < x.paths.length
          · have hd : decide ((k : Int) < x.paths.length) = true := by simp only [decide_eq_true_eq]; omega
            rcases HS.out with ⟨_, hn⟩ | ⟨b, off, cap, hv, hc⟩
            · rw [hn] at hlt; simp at hlt
            · simp only [Value.slice.injEq] at hv
              obtain ⟨rfl, _, rfl⟩ := hv
              obtain ⟨sv, c1, c2, c3, c4, hS, z1, z2⟩ := hc k hlt
              have hbl := World.block_lt_of_cell? w _ c1
              have g1 := (hb.cell (p := ⟨b, off + k * 4, none⟩) hbl).trans c1
              have g2 := (hb.cell (p := ⟨b, off + k * 4 + 1, none⟩) hbl).trans c2
              have g3 := (hb.cell (p := ⟨b, off + k * 4 + 2, none⟩) hbl).trans c3
              have g4 := (hb.cell (p := ⟨b, off + k * 4 + 3, none⟩) hbl).trans c4
              have hdr : x.paths.drop k = x.paths[k] :: x.paths.drop (k + 1) := List.drop_eq_getElem_cons hlt
              have hst : Hid (pfOk x = (ptOk x.paths[k] && (x.paths.drop (k + 1)).all ptOk)) := by show _ = _; rw [hR.out, hdr, List.all_cons]
              have hz := hb.size
              clear c1 c2 c3 c4 hc hR hdr
              generalize x.paths[k] = t at g1 g2 g3 g4 hS z1 z2 hst
              have hB1 := hb.alloc hz (.cells #[.int .i64 t.idx, .string t.key, .string t.dat, sv] 111)
              have X2 := X1.alloc (.cells #[.int .i64 t.idx, .string t.key, .string t.dat, sv] 111)
              have T2 := blk_new wr wr.heap.size #[.int .i64 t.idx, .string t.key, .string t.dat, sv] 111 rfl
              have hS2 := hS.below hB1
              obtain ⟨ps, cs, rfl⟩ := hS.len
              unfold maxLen at z1 z2
              clear hS
              by_cases f0 : 0 ≤ t.idx
              · have d0 : decide (t.idx < 0) = false := by simp only [decide_eq_false_iff_not]; omega
                by_cases f1 : t.idx ≤ 4095
                · have d1 : decide (4095 < t.idx) = false := by simp only [decide_eq_false_iff_not]; omega
                  by_cases f2 : t.key.size ≤ 64
                  · have d2 : decide ((64 : Int) < t.key.size) = false := by simp only [decide_eq_false_iff_not]; omega
                    by_cases f3 : t.dat.size ≤ 4096
                    · have d3 : decide ((4096 : Int) < t.dat.size) = false := by simp only [decide_eq_false_iff_not]; omega
                      by_cases f4 : t.sides.length ≤ 13
                      · have d4 : decide ((13 : Int) < (t.sides.length : Int)) = false := by simp only [decide_eq_false_iff_not]; omega
                        have hpt : Hid (pfOk x = (t.sides.all sdOk && (x.paths.drop (k + 1)).all ptOk)) := by
                          show _ = _; rw [hst.out]; unfold ptOk; rw [decide_eq_true (show 0 ≤ t.idx ∧ t.idx ≤ 4095 from ⟨f0, f1⟩), decide_eq_true f2, decide_eq_true f3, decide_eq_true f4]; simp
                        clear hst
                        have HS2 : Hid _ := hS2
                        clear hS2
                        go_wp2
                        have t3 := T2.cell (o := 3) rfl
                        go_loop [5] (fun i => ∃ j : Nat, j ≤ t.sides.length ∧ i = .int .i64 j ∧ Hid (pfOk x = ((t.sides.drop j).all sdOk && (x.paths.drop (k + 1)).all ptOk))) (fun i => t.sides.length - (intOf i).toNat)
                        case atStart => exact ⟨0, Nat.zero_le _, rfl, hpt⟩
                        case round =>
                          obtain ⟨j, hj, rfl, hQ⟩ := hrel
                          clear hpt
                          by_cases hjl : j < t.sides.length
                          · have hdj : decide ((j : Int) < t.sides.length) = true := by simp only [decide_eq_true_eq]; omega
                            rcases HS2.out with ⟨_, hn⟩ | ⟨b', off', cap', hv', hc'⟩
                            · rw [hn] at hjl; simp at hjl
                            · simp only [Value.slice.injEq] at hv'
                              obtain ⟨rfl, _, rfl⟩ := hv'
                              obtain ⟨y1, zz⟩ := hc' j hjl
                              have hdr : t.sides.drop j = t.sides[j] :: t.sides.drop (j + 1) := List.drop_eq_getElem_cons hjl
                              have hst : Hid (pfOk x = (sdOk t.sides[j] && ((t.sides.drop (j + 1)).all sdOk && (x.paths.drop (k + 1)).all ptOk))) := by show _ = _; rw [hQ.out, hdr, List.all_cons, Bool.and_assoc]
                              unfold maxLen at zz
                              clear hc' hQ hdr
                              generalize t.sides[j] = r at y1 zz hst
                              by_cases et : r.size ≤ 32
                              · have hst2 : Hid (pfOk x = ((t.sides.drop (j + 1)).all sdOk && (x.paths.drop (k + 1)).all ptOk)) := by show _ = _; rw [hst.out, show sdOk r = true from decide_eq_true et, Bool.true_and]
                                have dt : decide ((32 : Int) < r.size) = false := by simp only [decide_eq_false_iff_not]; omega
                                clear hst
                                go_wp2
                                go_round
                                case rel => exact ⟨j + 1, by omega, by go_num, hst2⟩
                                case measure => simp [intOf]; omega
                              · have hst2 : Hid (pfOk x = false) := by show _ = _; rw [hst.out, show sdOk r = false from decide_eq_false et, Bool.false_and]
                                have dt : decide ((32 : Int) < r.size) = true := by simp only [decide_eq_true_eq]; omega
                                clear hst
                                go_wp2
                                go_ret
                                exact ⟨by rw [hst2.out]; rfl, hB1⟩
                          · have hdj : decide ((j : Int) < t.sides.length) = false := by simp only [decide_eq_false_iff_not]; omega
                            have hQ2 : Hid (pfOk x = (x.paths.drop (k + 1)).all ptOk) := by show _ = _; rw [hQ.out, List.drop_of_length_le (by omega)]; rfl
                            clear hQ
                            go_wp2
                            go_roundw
                            case rel => exact ⟨k + 1, by omega, by go_num, hQ2, hB1, X2⟩
                            case measure => simp [intOf]; omega
                      · have d4 : decide ((13 : Int) < (t.sides.length : Int)) = true := by simp only [decide_eq_true_eq]; omega
                        have hst2 : Hid (pfOk x = false) := by show _ = _; rw [hst.out]; unfold ptOk; rw [decide_eq_false f4]; simp
                        clear hst hS2
                        go_wp2
                        go_ret
                        exact ⟨by rw [hst2.out]; rfl, hB1⟩
                    · have d3 : decide ((4096 : Int) < t.dat.size) = true := by simp only [decide_eq_true_eq]; omega
                      have hst2 : Hid (pfOk x = false) := by show _ = _; rw [hst.out]; unfold ptOk; rw [decide_eq_false f3]; simp
                      clear hst hS2
                      go_wp2
                      go_ret
                      exact ⟨by rw [hst2.out]; rfl, hB1⟩
                  · have d2 : decide ((64 : Int) < t.key.size) = true := by simp only [decide_eq_true_eq]; omega
                    have hst2 : Hid (pfOk x = false) := by show _ = _; rw [hst.out]; unfold ptOk; rw [decide_eq_false f2]; simp
                    clear hst hS2
                    go_wp2
                    go_ret
                    exact ⟨by rw [hst2.out]; rfl, hB1⟩
                · have d1 : decide (4095 < t.idx) = true := by simp only [decide_eq_true_eq]; omega
                  have hst2 : Hid (pfOk x = false) := by show _ = _; rw [hst.out]; unfold ptOk; rw [decide_eq_false (show ¬ (0 ≤ t.idx ∧ t.idx ≤ 4095) by omega)]; simp
                  clear hst hS2
                  go_wp2
                  go_ret
                  exact ⟨by rw [hst2.out]; rfl, hB1⟩
              · have d0 : decide (t.idx < 0) = true := by simp only [decide_eq_true_eq]; omega
                have hst2 : Hid (pfOk x = false) := by show _ = _; rw [hst.out]; unfold ptOk; rw [decide_eq_false (show ¬ (0 ≤ t.idx ∧ t.idx ≤ 4095) by omega)]; simp
                clear hst hS2
                go_wp2
                go_ret
                exact ⟨by rw [hst2.out]; rfl, hB1⟩
          · have hd : decide ((k : Int) < x.paths.length) = false := by simp only [decide_eq_false_iff_not]; omega
            have hfin2 : Hid (pfOk x = true) := by show _ = _; rw [hR.out, List.drop_of_length_le (by omega)]; rfl
            clear hR
            go_wp2
            go_ret
            exact ⟨by rw [hfin2.out]; rfl, hb⟩
      · have dp : decide ((2 : Int) < (x.paths.length : Int)) = true := by simp only [decide_eq_true_eq]; omega
        have hfin : pfOk x = false := by unfold pfOk; rw [decide_eq_false e3]; simp
        rw [hfin]
        go_enter Tryz.func43, Tryz.ntmps43
        go_wp2
        go_ret
        exact ⟨rfl, by go_grown⟩
    · have g1 : decide (4096 < x.cnt) = true := by simp only [decide_eq_true_eq]; omega
      have hfin : pfOk x = false := by unfold pfOk; rw [decide_eq_false (show ¬ (0 ≤ x.cnt ∧ x.cnt ≤ 4096) by omega)]; simp
      rw [hfin]
      go_enter Tryz.func43, Tryz.ntmps43
      go_wp2
      go_ret
      exact ⟨rfl, by go_grown⟩
  · have g0 : decide (x.cnt < 0) = true := by simp only [decide_eq_true_eq]; omega
    have hfin : pfOk x = false := by unfold pfOk; rw [decide_eq_false (show ¬ (0 ≤ x.cnt ∧ x.cnt ≤ 4096) by omega)]; simp
    rw [hfin]
    go_enter Tryz.func43, Tryz.ntmps43
    go_wp2
    go_ret
    exact ⟨rfl, by go_grown⟩
end Go.Proofs.YtocphdikppeijaaGreat

