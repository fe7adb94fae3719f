/- What stays true of a log; the chapter's example. -/
import Derived.Test.YtjpmnmgnbpecjaaVlN
namespace Go.Proofs.Ytjpmnmgnbpecjaa
open Go.Shelf Go.RowKit Go.Lib Go.Sort
open Go.ChangeMaps (setBlock)
set_option linter.unusedSimpArgs false
set_option linter.unusedVariables false
variable {w : World} {p : Nat} {mp : Nat → Option Nat} {L : Lv}
/-- Proofs have few messages. -/
def Fl (L : Lv) : Prop := ∀ k, (L.sl k).fl.length ≤ 13
theorem Fl.ok (h : Fl L) : FlOk L := fun k _ => Nat.le_trans (h k) (by decide)
theorem Fl.set (h : Fl L) (k : Nat) {s : Slot} (hs : s.fl.length ≤ 13) : Fl (L.set k s) := fun j => by
  unfold Lv.set
  simp only
  split
  · exact hs
  · exact h j
theorem quo_le (n : Nat) : quo n ≤ n := by unfold quo; omega
theorem prove_fl {n : Nat} (hn : Nok n) {s : Slot} (h : s.fl.length ≤ 13) (vw : Int) : (s.prove n vw).fl.length ≤ 13 := by
  unfold Slot.prove
  split
  · exact h
  · have := hn.le
    have := quo_le n
    simp only [List.length_take]
    omega
theorem propose_ok (hi : LInv L) (hf : Fl L) (vw q : Int) (d b : ByteArray) : LInv (L.propose vw q d b).1 ∧ Fl (L.propose vw q d b).1 ∧ (L.propose vw q d b).1.n = L.n := by
  unfold Lv.propose
  split
  · exact ⟨hi, hf, rfl⟩
  · split
    · exact ⟨hi, hf, rfl⟩
    · split
      · exact ⟨hi, hf, rfl⟩
      · split
        · exact ⟨hi, hf, rfl⟩
        · refine ⟨hi.set ?_ ?_, hf.set _ (prove_fl hi.n ?_ _), rfl⟩
          · rw [(prove_pr _ _ _).1]
          · rw [(prove_pr _ _ _).2]
          · exact hf (pla q)
theorem LInv.put (hi : LInv L) {k : Nat} {s : Slot} (hk : k < 8) (hp : VOk L.n s.pr) (hc : VOk L.n s.co) : LInv (L.set k s) :=
  ⟨hi.n, hi.lo, fun j hj => by
    show VOk L.n _
    unfold Lv.vts Lv.set
    simp only
    split
    · exact hi.ck
    · split
      · split
        · exact hp
        · exact hi.pr (by omega)
      · split
        · exact hc
        · exact hi.co (by omega)⟩
theorem vote_ok (hi : LInv L) (hf : Fl L) (m : Sgn) (kd vw q : Int) (d : ByteArray) : LInv (L.vote m kd vw q d).1 ∧ Fl (L.vote m kd vw q d).1 ∧ (L.vote m kd vw q d).1.n = L.n := by
  unfold Lv.vote
  split
  · exact ⟨hi, hf, rfl⟩
  · rename_i g0
    split
    · exact ⟨hi, hf, rfl⟩
    · split
      · split <;> exact ⟨hi, hf, rfl⟩
      · have hm : 0 ≤ m.1 ∧ m.1 < L.n := Decidable.byContradiction fun e => g0 (Or.inl e)
        have hk := pla_lt q
        refine ⟨hi.put hk ?_ ?_, hf.set _ (prove_fl hi.n ?_ _), rfl⟩
        · rw [(prove_pr _ _ _).1]
          unfold Slot.put
          split
          · exact (hi.pr hk).put hm.1 hm.2 rfl
          · exact hi.pr hk
        · rw [(prove_pr _ _ _).2]
          unfold Slot.put
          split
          · exact hi.co hk
          · exact (hi.co hk).put hm.1 hm.2 rfl
        · unfold Slot.put
          split <;> exact hf _
/-- A log all of whose blocks lie above what was there. -/
structure Ats (B : Nat) (w0 w : World) (p : Nat) (mp : Nat → Option Nat) (L : Lv) : Prop where
  lg : Lg w p mp L
  bel : Below B w0 w
  pb : B ≤ p
  mb : ∀ j b, j < 17 → mp j = some b → B ≤ b
  inv : LInv L
  fl : Fl L
theorem Ats.sz {B : Nat} {w0 : World} (h : Ats B w0 w p mp L) : B ≤ w.heap.size := Nat.le_of_lt (Nat.lt_of_le_of_lt h.pb h.lg.lt)
theorem Ats.step {B : Nat} {w0 w' : World} {L' : Lv} {mp' : Nat → Option Nat} (h : Ats B w0 w p mp L) (hl : Lg w' p mp' L') (hs : Stp p mp w mp' w') (hi : LInv L') (hf : Fl L') : Ats B w0 w' p mp' L' :=
  ⟨hl, hs.below h.pb h.mb h.bel h.sz, h.pb, fun j b hj hb => by
    rcases hs.new j b hj hb with ⟨i, hi', e⟩ | e
    · exact h.mb i b hi' e
    · exact Nat.le_trans h.sz e, hi, hf⟩
theorem Ats.below {B : Nat} {w0 w' : World} (h : Ats B w0 w p mp L) (hb : Below w.heap.size w w') : Ats B w0 w' p mp L :=
  ⟨h.lg.below hb, h.bel.trans (hb.mono h.sz), h.pb, h.mb, h.inv, h.fl⟩
def tD : ByteArray := ⟨#[100]⟩
def tB : ByteArray := ⟨#[98]⟩
def tE : ByteArray := ⟨#[101]⟩
def tX : ByteArray := ⟨#[120]⟩
def tM : ByteArray := ⟨#[109]⟩
def tS : ByteArray := ⟨#[115]⟩
def ex0 : Lv := Lv.new 4
def ex1 : Lv := (ex0.propose 0 1 ⟨#[100]⟩ ⟨#[98]⟩).1
def ex2 : Lv := (ex1.vote (0, ⟨#[109]⟩, ⟨#[115]⟩) 3 0 1 ⟨#[100]⟩).1
def ex3 : Lv := (ex2.vote (1, ⟨#[109]⟩, ⟨#[115]⟩) 3 0 1 ⟨#[100]⟩).1
def ex4 : Lv := (ex3.vote (3, ⟨#[109]⟩, ⟨#[115]⟩) 3 0 1 ⟨#[120]⟩).1
def ex5 : Lv := (ex4.vote (2, ⟨#[109]⟩, ⟨#[115]⟩) 3 0 1 ⟨#[100]⟩).1
theorem ex1c : ex0.propose 0 1 ⟨#[100]⟩ ⟨#[98]⟩ = (ex1, 0) := by kernel_rfl
theorem ex1d : ex1.propose 0 1 ⟨#[101]⟩ ⟨#[98]⟩ = (ex1, 102) := by kernel_rfl
theorem ex2c : ex1.vote (0, ⟨#[109]⟩, ⟨#[115]⟩) 3 0 1 ⟨#[100]⟩ = (ex2, 0) := by kernel_rfl
theorem ex3c : ex2.vote (1, ⟨#[109]⟩, ⟨#[115]⟩) 3 0 1 ⟨#[100]⟩ = (ex3, 0) := by kernel_rfl
theorem ex4c : ex3.vote (3, ⟨#[109]⟩, ⟨#[115]⟩) 3 0 1 ⟨#[120]⟩ = (ex4, 0) := by kernel_rfl
theorem ex4p : (ex4.wi 1 && (ex4.sl (pla 1)).prep ex4.n) = false := by kernel_rfl
theorem ex5c : ex4.vote (2, ⟨#[109]⟩, ⟨#[115]⟩) 3 0 1 ⟨#[100]⟩ = (ex5, 0) := by kernel_rfl
theorem ex5p : (ex5.wi 1 && (ex5.sl (pla 1)).prep ex5.n) = true := by kernel_rfl
theorem ex5m : (ex5.wi 1 && (ex5.sl (pla 1)).comm ex5.n) = false := by kernel_rfl
theorem ex5k : ex5.kept.map (fun s => (s.fs, s.ft, s.fl.length)) = [(1, ⟨#[98]⟩, 3)] := by kernel_rfl

set_option maxHeartbeats 16000000 in
set_option maxRecDepth 100000 in
theorem awake_calls (w : World) : Calls Try.prog 13 #[] w fun e w' => e = .returned (.bool true) ∧ Below w.heap.size w w' := by
  have HN := new_calls 4 (Or.inl rfl) w
  go_enter Try.func13, Try.ntmps13
  go_wp2_with fail
  refine HN.mono ?_
  rintro e w1 ⟨rfl, l1, b1, z1⟩
  have A1 : Ats w.heap.size w w1 w.heap.size (fun _ => none) ex0 := ⟨l1, b1, Nat.le_refl _, fun _ _ _ h => (by cases h), new_inv (Or.inl rfl), fun k => Nat.zero_le 13⟩
  have P1 := propose_calls A1.lg A1.inv 0 1 ⟨#[100]⟩ ⟨#[98]⟩ (by decide) (by decide)
  have I1 := propose_ok A1.inv A1.fl 0 1 ⟨#[100]⟩ ⟨#[98]⟩
  rw [ex1c] at P1 I1
  have HA1 : Hid _ := A1
  have HI1 : Hid _ := I1
  have HP1 : Hid _ := P1
  clear HN A1 P1 I1 l1 b1
  go_wp2_with fail
  refine Calls.mono HP1.out ?_
  rintro e w2 ⟨rfl, mp2, l2, s2⟩
  have A2 := Ats.step HA1.out l2 s2 HI1.out.1 HI1.out.2.1
  have P2 := propose_calls A2.lg A2.inv 0 1 ⟨#[101]⟩ ⟨#[98]⟩ (by decide) (by decide)
  rw [ex1d] at P2
  have HA2 : Hid _ := A2
  have HP2 : Hid _ := P2
  clear A2 P2 l2 s2 HA1 HI1 HP1
  go_wp2_with fail
  refine Calls.mono HP2.out ?_
  rintro e w3 ⟨rfl, mp3, l3, s3⟩
  have A3 := Ats.step HA2.out l3 s3 HA2.out.inv HA2.out.fl
  have HA3 : Hid _ := A3
  clear A3 l3 s3 HA2 HP2
  go_wp2_with fail
  refine (act_of 2 0 1 ⟨#[100]⟩ _).mono ?_
  rintro e v3 ⟨rfl, bv3⟩
  have B3 := Ats.below HA3.out bv3
  have D3 := done2_calls B3.lg B3.inv 2 0 0 1 ⟨#[100]⟩ ⟨#[109]⟩ (by decide) (by decide) (by decide)
  have J3 := vote_ok B3.inv B3.fl (0, ⟨#[109]⟩, ⟨#[115]⟩) 3 0 1 ⟨#[100]⟩
  rw [ex2c] at D3 J3
  have HB3 : Hid _ := B3
  have HD3 : Hid _ := D3
  have HJ3 : Hid _ := J3
  clear B3 D3 J3 HA3 bv3
  go_wp2_with fail
  refine Calls.mono HD3.out ?_
  rintro e w4 ⟨rfl, mp4, l4, s4⟩
  have HA4 : Hid _ := Ats.step HB3.out l4 s4 HJ3.out.1 HJ3.out.2.1
  clear l4 s4 HB3 HD3 HJ3
  go_wp2_with fail
  refine (act_of 2 1 1 ⟨#[100]⟩ _).mono ?_
  rintro e v4 ⟨rfl, bv4⟩
  have B4 := Ats.below HA4.out bv4
  have D4 := done2_calls B4.lg B4.inv 2 1 0 1 ⟨#[100]⟩ ⟨#[109]⟩ (by decide) (by decide) (by decide)
  have J4 := vote_ok B4.inv B4.fl (1, ⟨#[109]⟩, ⟨#[115]⟩) 3 0 1 ⟨#[100]⟩
  rw [ex3c] at D4 J4
  have HB4 : Hid _ := B4
  have HD4 : Hid _ := D4
  have HJ4 : Hid _ := J4
  clear B4 D4 J4 HA4 bv4
  go_wp2_with fail
  refine Calls.mono HD4.out ?_
  rintro e w5 ⟨rfl, mp5, l5, s5⟩
  have HA5 : Hid _ := Ats.step HB4.out l5 s5 HJ4.out.1 HJ4.out.2.1
  clear l5 s5 HB4 HD4 HJ4
  go_wp2_with fail
  refine (act_of 2 3 1 ⟨#[120]⟩ _).mono ?_
  rintro e v5 ⟨rfl, bv5⟩
  have B5 := Ats.below HA5.out bv5
  have D5 := done2_calls B5.lg B5.inv 2 3 0 1 ⟨#[120]⟩ ⟨#[109]⟩ (by decide) (by decide) (by decide)
  have J5 := vote_ok B5.inv B5.fl (3, ⟨#[109]⟩, ⟨#[115]⟩) 3 0 1 ⟨#[120]⟩
  rw [ex4c] at D5 J5
  have HB5 : Hid _ := B5
  have HD5 : Hid _ := D5
  have HJ5 : Hid _ := J5
  clear B5 D5 J5 HA5 bv5
  go_wp2_with fail
  refine Calls.mono HD5.out ?_
  rintro e w6 ⟨rfl, mp6, l6, s6⟩
  have HA6 : Hid _ := Ats.step HB5.out l6 s6 HJ5.out.1 HJ5.out.2.1
  clear l6 s6 HB5 HD5 HJ5
  have Q6 := prepd_calls HA6.out.lg HA6.out.inv 1
  rw [ex4p] at Q6
  have HQ6 : Hid _ := Q6
  clear Q6
  go_wp2_with fail
  refine Calls.mono HQ6.out ?_
  rintro e x6 ⟨rfl, bx6⟩
  have HA7 : Hid _ := Ats.below HA6.out bx6
  clear HA6 HQ6 bx6
  go_wp2_with fail
  refine (act_of 2 2 1 ⟨#[100]⟩ _).mono ?_
  rintro e v7 ⟨rfl, bv7⟩
  have B7 := Ats.below HA7.out bv7
  have D7 := done2_calls B7.lg B7.inv 2 2 0 1 ⟨#[100]⟩ ⟨#[109]⟩ (by decide) (by decide) (by decide)
  have J7 := vote_ok B7.inv B7.fl (2, ⟨#[109]⟩, ⟨#[115]⟩) 3 0 1 ⟨#[100]⟩
  rw [ex5c] at D7 J7
  have HB7 : Hid _ := B7
  have HD7 : Hid _ := D7
  have HJ7 : Hid _ := J7
  clear B7 D7 J7 HA7 bv7
  go_wp2_with fail
  refine Calls.mono HD7.out ?_
  rintro e w8 ⟨rfl, mp8, l8, s8⟩
  have HA8 : Hid _ := Ats.step HB7.out l8 s8 HJ7.out.1 HJ7.out.2.1
  clear l8 s8 HB7 HD7 HJ7
  have Q8 := prepd_calls HA8.out.lg HA8.out.inv 1
  rw [ex5p] at Q8
  have HQ8 : Hid _ := Q8
  clear Q8
  go_wp2_with fail
  refine Calls.mono HQ8.out ?_
  rintro e x8 ⟨rfl, bx8⟩
  have HA9 : Hid _ := Ats.below HA8.out bx8
  clear HA8 HQ8 bx8
  have Q9 := commd_calls HA9.out.lg HA9.out.inv 1
  rw [ex5m] at Q9
  have HQ9 : Hid _ := Q9
  clear Q9
  go_wp2_with fail
  refine Calls.mono HQ9.out ?_
  rintro e x9 ⟨rfl, bx9⟩
  have HA10 : Hid _ := Ats.below HA9.out bx9
  clear HA9 HQ9 bx9
  have HK : Hid _ := kept_calls HA10.out.lg HA10.out.inv (Fl.ok HA10.out.fl)
  go_wp2_with fail
  refine Calls.mono HK.out ?_
  rintro e x11 ⟨kv, rfl, ⟨ks, hks, hown, hsg⟩, bk⟩
  have hk1 : ks.map (fun x => (x.1.fs, x.1.ft, x.1.fl.length)) = [(1, ⟨#[98]⟩, 3)] := by
    rw [← ex5k, ← hks, List.map_map]; rfl
  obtain ⟨⟨s0, lv0⟩, rfl⟩ : ∃ x, ks = [x] := by
    cases ks with
    | nil => simp at hk1
    | cons a r =>
      cases r with
      | nil => exact ⟨a, rfl⟩
      | cons b r => simp at hk1
  simp only [List.map_cons, List.map_nil, List.cons.injEq, and_true, Prod.mk.injEq] at hk1
  obtain ⟨k1, k2, k3⟩ := hk1
  have HSg := hsg (s0, lv0) List.mem_cons_self
  obtain ⟨lp, lc, hlv⟩ : ∃ lp lc, lv0 = .slice lp 3 lc := by
    rcases HSg with ⟨_, h2⟩ | ⟨g', cap', cs', h1, _⟩
    · simp only at h2; rw [h2] at k3; simp at k3
    · simp only at h1; rw [k3] at h1; exact ⟨_, _, h1⟩
  subst hlv
  obtain ⟨g, cap, hkv, hgc⟩ : ∃ g cap, kv = .slice (some ⟨g, 0, none⟩) 1 cap ∧ ∀ j u, (bodyC s0 (.slice lp 3 lc))[j]? = some u → x11.cell? ⟨g, j, none⟩ = some u := by
    rcases hown.2 with ⟨h1, h2⟩ | ⟨g, cap, cur, h1, h2, h3, h4, h5, h6, h7⟩
    · simp at h2
    · have hB : Blk x11 g cur 34 := h3
      refine ⟨g, cap, h1, fun j u hu => hB.cell ?_⟩
      have hj : j < 8 := (List.getElem?_eq_some_iff.1 hu).1
      have e2 : (kbL [(s0, Value.slice lp 3 lc)])[j]? = some u := by
        show (bodyC s0 (.slice lp 3 lc) ++ [])[j]? = some u
        rw [List.append_nil]; exact hu
      rw [← h7, List.getElem?_take, if_pos (by simp; omega)] at e2
      simpa using e2
  subst hkv
  have f2 : x11.cell? ⟨g, 2, none⟩ = some (.int .i64 1) := by have := hgc 2 _ rfl; rw [k1] at this; exact this
  have f6 : x11.cell? ⟨g, 6, none⟩ = some (.string ⟨#[98]⟩) := by have := hgc 6 _ rfl; rw [k2] at this; exact this
  have f7 : x11.cell? ⟨g, 7, none⟩ = some (.slice lp 3 lc) := hgc 7 _ rfl
  have HB : Hid (Below w.heap.size w x11) := (Ats.below HA10.out bk).bel
  clear hown hsg HSg hgc hks bk HA10 HK k1 k2 k3
  go_wp2
  go_ret
  exact ⟨rfl, HB.out⟩
end Go.Proofs.Ytjpmnmgnbpecjaa
