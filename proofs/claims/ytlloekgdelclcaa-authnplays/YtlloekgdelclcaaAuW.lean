/- awake: the chapter's examples hold. -/
import Derived.Test.YtlloekgdelclcaaAuQ
namespace Go.Proofs.Ytlloekgdelclcaa
open Go.RowKit
set_option linter.unusedSimpArgs false
set_option linter.unusedVariables false

def exX : ByteArray := ⟨#[120]⟩
def exD : ByteArray := ⟨#[0, 0, 0, 0, 0, 0, 0, 1]⟩
def exBd : Bd := ⟨3, 0, 1, 0, 0, exD, ⟨#[]⟩, []⟩
def exBytes : ByteArray := ⟨#[3, 0, 1, 0, 0, 8, 0, 0, 0, 0, 0, 0, 0, 1, 0, 0]⟩
def exSig : ByteArray := ⟨#[115, 0, 0, 0, 0, 0, 0, 0, 1]⟩
def exSg : Sg := ⟨2, exBytes, exSig⟩
def exS : List (Int × ByteArray) := [(2, exBytes)]
theorem exT1 : note ([] : List ByteArray) exX = [exX] := by decide +kernel
theorem exT2 : note [exX] exX = [exX] := by decide +kernel
theorem exN1 : eightB (num [exX] exX) = exD := by decide +kernel
theorem exRight : right exBd = 0 := by decide +kernel
theorem exB : bdB exBd = [3, 0, 1, 0, 0, 8, 0, 0, 0, 0, 0, 0, 0, 1, 0, 0] := by decide +kernel
theorem exE : byE exBd = 0 := by unfold byE; rw [if_pos exRight, exB]; rfl
theorem exBy : byS exBd = exBytes := by unfold byS; rw [if_pos exE, exB]; rfl
theorem exNote : note ([] : List (Int × ByteArray)) (2, exBytes) = exS := rfl
theorem exNum : sgnB (num exS (2, exBytes)) = exSig := by decide +kernel
theorem exSeal : sealR [] 2 exBd = (exSg, 0) := by
  unfold sealR
  rw [if_pos exE, if_pos (by decide), exBy, exNote, exNum]; rfl
theorem exSealS : sealS [] 2 exBd = exS := by
  unfold sealS signS
  rw [if_pos exE, if_pos (by decide), exBy, exNote]
theorem exRd : rdBd exBytes 0 = .ok (exBd, 16) := by kernel_rfl
theorem exOf : ofR exBytes = .ok exBd := by
  unfold ofR
  rw [exRd, if_neg (by decide +kernel)]
  simp only
  rw [if_neg (by decide +kernel), if_pos exRight]
theorem exChk : chkB exS 2 exBytes exSig = true := by decide +kernel
theorem exChk3 : chkB exS 3 exBytes exSig = false := by decide +kernel
theorem exOpen : openR exS exSg = .ok exBd := by
  unfold openR exSg; rw [if_pos exChk, exOf]
theorem exOpen3 : openR exS ⟨3, exBytes, exSig⟩ = .error 30 := by
  unfold openR; rw [if_neg (by rw [exChk3]; decide)]
theorem exVote : vote exS 3 0 1 exD exSg = true := by
  unfold vote; rw [exOpen]; decide +kernel
theorem exQ : (qset (vote exS 3 0 1 exD) 4 [exSg, exSg]).length = 1 := by
  unfold qset
  simp only [List.foldl_cons, List.foldl_nil]
  unfold qstep
  rw [exVote]
  decide +kernel

theorem prepare_calls (seq : Int) (d : ByteArray) (w : World) : Calls Try.prog 19 #[.int .i64 seq, .string d] w fun e w' => e = .returned (Bd.val ⟨3, 0, seq, 0, 0, d, ⟨#[]⟩, []⟩ (.slice none 0 0)) ∧ Below w.heap.size w w' := by
  go_enter Try.func19, Try.ntmps19
  go_wp2
  go_returns
  exact ⟨rfl, by go_grown⟩

set_option maxHeartbeats 1000000 in
set_option maxRecDepth 100000 in
theorem awake_calls (w : World) : Calls Try.prog 6 #[] w fun e w' => e = .returned (.bool true) ∧ Below w.heap.size w w' := by
  have hN := newBook_calls
  have HN : Hid _ := hN
  clear hN
  go_enter Try.func6, Try.ntmps6
  go_wp2_with fail
  refine (HN.out _).mono ?_
  rintro e w1 ⟨p, b, x, y, rfl, K1, b1, hp, hb, hx, hy⟩
  have hD1 := bookDigest_calls exX w1 K1 (by decide) (by decide +kernel)
  rw [exT1, exN1] at hD1
  unfold exX exD at hD1
  go_wp2_with fail
  refine hD1.mono ?_
  rintro e w2 ⟨rfl, K2, o2⟩
  have K2x : Book w2 p b x y [exX] [] := K2
  have hD2 := bookDigest_calls exX w2 K2x (by decide) (by decide +kernel)
  rw [exT2, exN1] at hD2
  unfold exX exD at hD2
  clear hD1
  go_wp2_with fail
  refine hD2.mono ?_
  rintro e w3 ⟨rfl, K3, o3⟩
  clear hD2
  go_wp2_with fail
  refine (prepare_calls _ _ _).mono ?_
  rintro e w4 ⟨rfl, b4⟩
  have K4 := K3.below b4
  have hSe := seal_calls 2 exBd none 0 0 w4 K4 (by decide) (by decide +kernel) (by decide +kernel) (by decide +kernel) (Or.inl ⟨⟨_, _, rfl⟩, rfl⟩)
  rw [exSeal, exSealS] at hSe
  have HSe : Hid _ := hSe
  clear hSe
  go_wp2_with fail
  refine Calls.mono HSe.out ?_
  rintro e w5 ⟨rfl, K5, o5⟩
  have O5 : Off2 x y w1 w5 := ((o2.trans o3).trans (Off2.of_below b4)).trans o5
  have B5 : Below w.heap.size w w5 := O5.below hx hy b1 b1.size
  have Z5 := B5.size
  clear O5 o2 o3 b4 o5 HSe b1
  obtain ⟨W6, hW6, X6, B6, Z6⟩ : ∃ W6, (w5.alloc (.cells #[.int .i64 2, .string exBytes, .string exSig] 52)) = W6 ∧ Blk W6 w5.heap.size exSg.cells 52 ∧ Below w5.heap.size w5 W6 ∧ W6.heap.size = w5.heap.size + 1 :=
    ⟨_, rfl, blk_new _ _ _ _ rfl, by go_grown, by simp⟩
  have K6 := K5.below B6
  have hO := open_calls exSg W6 K6 (by decide) (by decide +kernel)
  rw [exOpen] at hO
  have HO : Hid _ := hO
  clear hO
  have hsz : (Try.prog.info? 52).map (·.size) = some exSg.cells.size := Sg.info exSg
  have hun := Try.underlying52
  have hsv : exSg.val = .agg #[.int .i64 2, .string exBytes, .string exSig] := rfl
  simp only [hsv]
  go_wp2_with ((with_reducible refine rd_row (ty := 52) X6 hun rfl hsz ?_ ?_); rfl)
  refine Calls.mono HO.out ?_
  rintro e w7 ⟨lv, rfl, hown, b7⟩
  obtain ⟨pp, cp, rfl⟩ := sgs_of_own' hown
  have X7 := X6.below b7
  have K7 := K6.below b7
  have Z7 := b7.size
  obtain ⟨W8, hW8, X8, Y8, B8, Z8⟩ : ∃ W8, (w7.alloc (.cells #[.int .i64 3, .int .i64 0, .int .i64 1, .int .i64 0, .int .i64 0, .string exD, .string ⟨#[]⟩, .slice pp 0 cp] 57)) = W8 ∧ Blk W8 w5.heap.size exSg.cells 52 ∧ Blk W8 w7.heap.size #[.int .i64 3, .int .i64 0, .int .i64 1, .int .i64 0, .int .i64 0, .string exD, .string ⟨#[]⟩, .slice pp 0 cp] 57 ∧ Below w7.heap.size w7 W8 ∧ W8.heap.size = w7.heap.size + 1 :=
    ⟨_, rfl, X7.alloc _, blk_new _ _ _ _ rfl, by go_grown, by simp⟩
  have K8 := K7.below B8
  simp only [Bd.val, exBd, List.length_nil]
  have c0 : W8.cell? ⟨w5.heap.size, 0, none⟩ = some (.int .i64 2) := X8.cell rfl
  have c1 : W8.cell? ⟨w5.heap.size, 1, none⟩ = some (.string exBytes) := X8.cell rfl
  have c2 : W8.cell? ⟨w5.heap.size, 2, none⟩ = some (.string exSig) := X8.cell rfl
  obtain ⟨W9, hW9, X9, B9, Z9⟩ : ∃ W9, (W8.alloc (.cells #[.int .i64 2, .string exBytes, .string exSig, .int .i64 2, .string exBytes, .string exSig] 52)) = W9 ∧ Blk W9 W8.heap.size #[.int .i64 2, .string exBytes, .string exSig, .int .i64 2, .string exBytes, .string exSig] 52 ∧ Below W8.heap.size W8 W9 ∧ W9.heap.size = W8.heap.size + 1 :=
    ⟨_, rfl, blk_new _ _ _ _ rfl, by go_grown, by simp⟩
  have K9 := K8.below B9
  have hm1 : exBytes.size ≤ maxLen := by decide +kernel
  have hm2 : exSig.size ≤ maxLen := by decide +kernel
  have hq9 : Sgs W9 (.slice (some ⟨W8.heap.size, 0, none⟩) 2 2) [exSg, exSg] := Or.inr ⟨W8.heap.size, 0, 2, rfl, fun i hi => by
    have : i = 0 ∨ i = 1 := by simp at hi; omega
    rcases this with rfl | rfl
    · exact ⟨X9.cell rfl, X9.cell rfl, X9.cell rfl, hm1, hm2⟩
    · exact ⟨X9.cell rfl, X9.cell rfl, X9.cell rfl, hm1, hm2⟩⟩
  have hQ := quorum_calls (.slice (some ⟨W8.heap.size, 0, none⟩) 2 2) [exSg, exSg] 3 0 1 exD 4 W9 K9 (by decide) hq9 (by decide)
  rw [exQ, Z8] at hQ
  have HQ : Hid _ := hQ
  clear hQ
  go_wp2_with fail
  refine Calls.mono HQ.out ?_
  rintro e w10 ⟨rfl, b10⟩
  have X10 := (X8.below B9).below b10
  have Y10 := (Y8.below B9).below b10
  have K10 := K9.below b10
  have Z10 := b10.size
  have s0 : w10.cell? ⟨w5.heap.size, 0, none⟩ = some (.int .i64 2) := X10.cell rfl
  have f0 : w10.frozen? ⟨w5.heap.size, 0, none⟩ = false := X10.frozen
  have hl := K5.lts
  have hl7 : w5.heap.size < w7.heap.size := by omega
  obtain ⟨W11, hW11, X11, Y11, K11, B11, Z11⟩ : ∃ W11, w10.setCell ⟨w5.heap.size, 0, none⟩ (.int .i64 3) = W11 ∧ Blk W11 w5.heap.size (Sg.cells ⟨3, exBytes, exSig⟩) 52 ∧ Blk W11 w7.heap.size #[.int .i64 3, .int .i64 0, .int .i64 1, .int .i64 0, .int .i64 0, .string exD, .string ⟨#[]⟩, .slice pp 0 cp] 57 ∧ Book W11 p b x y [exX] exS ∧ Below w5.heap.size w10 W11 ∧ W11.heap.size = w10.heap.size := by
    refine ⟨_, rfl, ?_, Y10.setOther (by simp; omega) _, ?_, Below.setCell (p := ⟨w5.heap.size, 0, none⟩) (Below.refl _ _) (Nat.le_refl _) _, by simp [World.setCell]⟩
    · have := X10.set 0 (.int .i64 3)
      exact this
    · have hs : ∀ k, k ≠ w5.heap.size → (w10.setCell ⟨w5.heap.size, 0, none⟩ (.int .i64 3)).heap[k]? = w10.heap[k]? := fun k hk => Below.heap_setCell _ _ _ _ hk
      exact ⟨K10.blk.setOther (by simp; omega) _, K10.nums.blk.setOther (by simp; omega) _, (hs _ (by omega)).trans K10.nums.mx, (hs _ (by omega)).trans K10.nums.my, K10.nums.ne⟩
  have hO3 := open_calls ⟨3, exBytes, exSig⟩ W11 K11 (by decide) (by decide +kernel)
  rw [exOpen3] at hO3
  have HO3 : Hid _ := hO3
  clear hO3
  have hsz3 : (Try.prog.info? 52).map (·.size) = some (Sg.cells ⟨3, exBytes, exSig⟩).size := Sg.info _
  go_wp2_with ((with_reducible refine rd_row (ty := 52) X11 hun rfl hsz3 ?_ ?_); rfl)
  refine Calls.mono HO3.out ?_
  rintro e w12 ⟨rfl, b12⟩
  have Y12 := Y11.below b12
  have y2 : (w12.alloc (.cells #[.int .i64 0, .int .i64 0, .int .i64 0, .int .i64 0, .int .i64 0, .string ⟨#[]⟩, .string ⟨#[]⟩, .slice none 0 0] 57)).cell? ⟨w7.heap.size, 2, none⟩ = some (.int .i64 1) := (Y12.alloc _).cell rfl
  have Z12 := b12.size
  have hne : ¬ w7.heap.size = w12.heap.size := by omega
  have hBf : Below w.heap.size w w12 := by
    have h1 : Below w.heap.size w W9 := (((B5.trans (B6.mono (by omega))).trans (b7.mono (by omega))).trans (B8.mono (by omega))).trans (B9.mono (by omega))
    exact ((h1.trans (b10.mono (by omega))).trans (B11.mono (by omega))).trans (b12.mono (by omega))
  simp only [Bd.val, zeroBd]
  go_wp2
  go_ret
  exact ⟨rfl, hBf.alloc (by omega) _⟩
end Go.Proofs.Ytlloekgdelclcaa
