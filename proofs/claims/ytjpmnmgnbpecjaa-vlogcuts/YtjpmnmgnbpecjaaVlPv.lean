/- Proposal and Voted. -/
import Derived.Test.YtjpmnmgnbpecjaaVlO
namespace Go.Proofs.Ytjpmnmgnbpecjaa
open Go.Shelf Go.RowKit Go.Lib Go.Sort
open Go.ChangeMaps (setBlock)
set_option linter.unusedSimpArgs false
set_option linter.unusedVariables false
variable {w : World} {p : Nat} {mp : Nat → Option Nat} {L : Lv}
/-- Has a number a proposal? -/
def Lv.propAt (L : Lv) (q : Int) : Bool := L.wi q && !decide ((L.sl (pla q)).pd = ⟨#[]⟩)
def Lv.propD (L : Lv) (q : Int) : ByteArray := if L.propAt q = true then (L.sl (pla q)).pd else ⟨#[]⟩
def Lv.propB (L : Lv) (q : Int) : ByteArray := if L.propAt q = true then (L.sl (pla q)).ba else ⟨#[]⟩
set_option maxHeartbeats 4000000 in
set_option maxRecDepth 100000 in
theorem proposal_calls (h : Lg w p mp L) (hi : LInv L) (q : Int) : Calls Try.prog 15 #[.pointer (some ⟨p, 0, none⟩), .int .i64 q] w fun e w' => e = .returned (.tuple #[.string (L.propD q), .string (L.propB q), .bool (L.propAt q)]) ∧ Below w.heap.size w w' := by
  have hr := at_calls h hi q
  unfold slP at hr
  by_cases h1 : L.wi q = true
  · rw [if_pos h1] at hr
    obtain ⟨lv, hs, _⟩ := h.slot (pla q) (pla_lt q)
    have HP : Hid _ := proposed_calls hs
    have c1 : w.cell? ⟨p, 3 + pla q * 13 + 1, none⟩ = some (.string (L.sl (pla q)).pd) := hs 1 _ rfl
    have c2 : w.cell? ⟨p, 3 + pla q * 13 + 2, none⟩ = some (.string (L.sl (pla q)).ba) := hs 2 _ rfl
    unfold Lv.propD Lv.propB Lv.propAt
    rw [h1]
    simp only [Bool.true_and]
    clear hs h hi h1
    generalize 3 + pla q * 13 = o at *
    by_cases h2 : (L.sl (pla q)).pd = ⟨#[]⟩
    · rw [decide_eq_true h2] at HP ⊢
      simp only [Bool.not_true, Bool.false_eq_true, if_false] at HP ⊢
      clear h2 c1 c2
      go_enter Try.func15, Try.ntmps15
      go_wp2_with fail
      refine hr.mono ?_
      rintro e w1 ⟨rfl, hw1⟩
      obtain rfl := hw1.symm
      go_wp2_with fail
      refine Calls.mono HP.out ?_
      rintro e w2 ⟨rfl, hw2⟩
      obtain rfl := hw2.symm
      go_wp2
      (try simp only [Exit.inBlock, Exit.then])
      refine bodyPost_ret (v := .tuple #[.string ⟨#[]⟩, .string ⟨#[]⟩, .bool false]) (by simp [results, Try.results15, go_sem]) rfl ?_
      exact ⟨rfl, by first | exact Below.refl _ _ | go_grown⟩
    · rw [decide_eq_false h2] at HP ⊢
      simp only [Bool.not_false, if_true] at HP ⊢
      clear h2
      generalize (L.sl (pla q)).pd = D at *
      generalize (L.sl (pla q)).ba = E at *
      go_enter Try.func15, Try.ntmps15
      go_wp2_with fail
      refine hr.mono ?_
      rintro e w1 ⟨rfl, hw1⟩
      obtain rfl := hw1.symm
      go_wp2_with fail
      refine Calls.mono HP.out ?_
      rintro e w2 ⟨rfl, hw2⟩
      obtain rfl := hw2.symm
      go_wp2
      go_region
      go_wp2
      (try simp only [Exit.inBlock, Exit.then])
      refine bodyPost_ret (v := .tuple #[.string D, .string E, .bool true]) (by simp [results, Try.results15, go_sem]) rfl ?_
      exact ⟨rfl, by first | exact Below.refl _ _ | exact (Below.refl _ _).drew | go_grown⟩
  · rw [if_neg h1] at hr
    unfold Lv.propD Lv.propB Lv.propAt
    rw [show L.wi q = false by simpa using h1]
    simp only [Bool.false_and, Bool.false_eq_true, if_false]
    clear h hi h1
    go_enter Try.func15, Try.ntmps15
    go_wp2_with fail
    refine hr.mono ?_
    rintro e w1 ⟨rfl, hw1⟩
    obtain rfl := hw1.symm
    go_wp2
    (try simp only [Exit.inBlock, Exit.then])
    refine bodyPost_ret (v := .tuple #[.string ⟨#[]⟩, .string ⟨#[]⟩, .bool false]) (by simp [results, Try.results15, go_sem]) rfl ?_
    exact ⟨rfl, by first | exact Below.refl _ _ | go_grown⟩
/-- Somebody's vote. -/
def Lv.votedV (L : Lv) (kd q f : Int) : Option Vt := if L.wi q = true then vget ((L.sl (pla q)).vts kd) f else none
def msgOf (o : Option Vt) : Sgn := match o with | some v => v.2.2 | none => (0, ⟨#[]⟩, ⟨#[]⟩)
theorem vgetZ_msg (l : Vts) (f : Int) : (vgetZ l f).2.2 = msgOf (vget l f) := by
  unfold vgetZ msgOf
  cases vget l f <;> rfl
theorem sign_zero (w : World) : ∃ W0, (w.alloc (.cells #[.int .i64 0, .string ⟨#[]⟩, .string ⟨#[]⟩] 38)) = W0 ∧ Blk W0 w.heap.size #[.int .i64 0, .string ⟨#[]⟩, .string ⟨#[]⟩] 38 ∧ Below w.heap.size w W0 := ⟨_, rfl, blk_new _ _ _ _ rfl, by go_grown⟩
set_option maxHeartbeats 4000000 in
set_option maxRecDepth 100000 in
theorem voted3_calls (h : Lg w p mp L) (hi : LInv L) (q f : Int) : Calls Try.prog 16 #[.pointer (some ⟨p, 0, none⟩), .int .i64 3, .int .i64 q, .int .i64 f] w fun e w' => e = .returned (.tuple #[.agg #[.int .i64 (msgOf (L.votedV 3 q f)).1, .string (msgOf (L.votedV 3 q f)).2.1, .string (msgOf (L.votedV 3 q f)).2.2], .bool (L.votedV 3 q f).isSome]) ∧ Below w.heap.size w w' := by
  by_cases h1 : L.wi q = true
  · obtain ⟨W0, hW0, X0, b0⟩ := sign_zero w
    have h0 := h.below b0
    have hr := at_calls h0 hi q
    unfold slP at hr
    rw [if_pos h1] at hr
    obtain ⟨lv, hs, _⟩ := h0.slot (pla q) (pla_lt q)
    have hcj : W0.cell? ⟨p, 3 + pla q * 13 + 3, none⟩ = some (.map (mp (2 * pla q))) := hs 3 _ rfl
    have hmj : MapAt W0 (mp (2 * pla q)) (L.sl (pla q)).pr := h0.mpr (pla_lt q)
    unfold Lv.votedV
    rw [if_pos h1]
    rw [show (L.sl (pla q)).vts 3 = (L.sl (pla q)).pr from rfl]
    generalize (L.sl (pla q)).pr = l at *
    generalize mp (2 * pla q) = pl at *
    clear hs h h0 h1
    generalize 3 + pla q * 13 = o at *
    have HV : Hid _ := fun wx => votes3_calls wx p o
    have hlk := run_look Try.underlying61 Try.underlying3 zeroVote hmj f
    rw [← vgetZ_msg]
    generalize (vget l f).isSome = ok at *
    obtain ⟨⟨v0, v1, v2, v3, v4⟩, hvz⟩ : ∃ x, vgetZ l f = x := ⟨_, rfl⟩
    rw [hvz] at hlk ⊢
    have hlk2 : (Instr.lookup 61 (.map pl) (.int .i64 f) true).run Try.prog W0 = .ok (.tuple #[.agg #[.int .i64 v0, .string v1, .int .i64 v2, .string v3, .string v4], .bool ok]) W0 := hlk
    show Calls _ _ _ _ fun e w' => e = .returned (.tuple #[.agg #[.int .i64 v2, .string v3, .string v4], .bool ok]) ∧ Below w.heap.size w w'
    have hz0 : w.heap.size < W0.heap.size := X0.lt
    obtain ⟨W1, hW1, XV, b1⟩ : ∃ W1, W0.alloc (.cells #[.int .i64 v0, .string v1, .int .i64 v2, .string v3, .string v4] 82) = W1 ∧ Blk W1 W0.heap.size #[.int .i64 v0, .string v1, .int .i64 v2, .string v3, .string v4] 82 ∧ Below W0.heap.size W0 W1 := ⟨_, rfl, blk_new _ _ _ _ rfl, by go_grown⟩
    have X1 := X0.below b1
    have t2 : W1.cell? ⟨W0.heap.size, 2, none⟩ = some (.int .i64 v2) := XV.cell rfl
    have t3 : W1.cell? ⟨W0.heap.size, 3, none⟩ = some (.string v3) := XV.cell rfl
    have t4 : W1.cell? ⟨W0.heap.size, 4, none⟩ = some (.string v4) := XV.cell rfl
    obtain ⟨W2, hW2, X2, o2, z2, os2, tp2, ou2⟩ := setRow_named X1 #[.int .i64 v2, .string v3, .string v4]
    have HB : Hid (Below w.heap.size w W2) := below_row (B := w.heap.size) (b0.trans (b1.mono (by omega))) hW2 (Nat.le_refl _)
    have hinf : (Try.prog.info? 38).map (·.size) = some (#[Value.int .i64 v2, .string v3, .string v4]).size := by kernel_rfl
    have HSz : Hid ((#[Value.int .i64 0, .string ⟨#[]⟩, .string ⟨#[]⟩]).size = (#[Value.int .i64 v2, .string v3, .string v4]).size) := rfl
    have hone : (#[Value.int .i64 v2, .string v3, .string v4]).all (·.oneCell') = true := by kernel_rfl
    have x0 : W2.cell? ⟨w.heap.size, 0, none⟩ = some (.int .i64 v2) := X2.cell rfl
    have x1 : W2.cell? ⟨w.heap.size, 1, none⟩ = some (.string v3) := X2.cell rfl
    have x2 : W2.cell? ⟨w.heap.size, 2, none⟩ = some (.string v4) := X2.cell rfl
    have HX1 : Hid (Blk W1 w.heap.size #[.int .i64 0, .string ⟨#[]⟩, .string ⟨#[]⟩] 38) := X1
    clear hlk hvz hmj X0 X1 X2 XV b0 b1 o2 z2 os2 tp2 ou2
    go_enter Try.func16, Try.ntmps16
    go_wp2_with fail
    refine hr.mono ?_
    rintro e w1 ⟨rfl, hw1⟩
    obtain rfl := hw1.symm
    go_wp2_with fail
    refine Calls.mono (HV.out _) ?_
    rintro e w2 ⟨rfl, hw2⟩
    obtain rfl := hw2.symm
    go_wp2_with (with_reducible refine st_row HX1.out hinf HSz.out hone hW2 rfl rfl ?_)
    (try simp only [Exit.inBlock, Exit.then])
    refine bodyPost_ret (v := .tuple #[.agg #[.int .i64 v2, .string v3, .string v4], .bool ok]) (by simp [results, Try.results16, go_sem, x0, x1, x2]) rfl ?_
    exact ⟨rfl, HB.out⟩
  · have hn : L.votedV 3 q f = none := by unfold Lv.votedV; rw [if_neg h1]
    rw [hn]
    show Calls _ _ _ _ fun e w' => e = .returned (.tuple #[.agg #[.int .i64 0, .string ⟨#[]⟩, .string ⟨#[]⟩], .bool false]) ∧ Below w.heap.size w w'
    obtain ⟨zs, hzs, hsz⟩ : ∃ zs : Array Value, zs = #[.int .i64 0, .string ⟨#[]⟩, .string ⟨#[]⟩] ∧ zs.size = 3 := ⟨_, rfl, rfl⟩
    obtain ⟨W0, hW0, X0, b0⟩ : ∃ W0, (w.alloc (.cells #[.int .i64 0, .string ⟨#[]⟩, .string ⟨#[]⟩] 38)) = W0 ∧ Blk W0 w.heap.size zs 38 ∧ Below w.heap.size w W0 := ⟨_, rfl, by rw [hzs]; exact blk_new _ _ _ _ rfl, by go_grown⟩
    have hr := at_calls (h.below b0) hi q
    unfold slP at hr
    rw [if_neg h1] at hr
    obtain ⟨W2, hW2, X2, o2, z2, os2, tp2, ou2⟩ := setRow_named X0 #[.int .i64 0, .string ⟨#[]⟩, .string ⟨#[]⟩]
    have hb : Below w.heap.size w W2 := below_row (B := w.heap.size) b0 hW2 (Nat.le_refl _)
    have hinf : (Try.prog.info? 38).map (·.size) = some (#[Value.int .i64 0, .string ⟨#[]⟩, .string ⟨#[]⟩]).size := by kernel_rfl
    have hs : zs.size = (#[Value.int .i64 0, .string ⟨#[]⟩, .string ⟨#[]⟩]).size := hsz
    have hone : (#[Value.int .i64 0, .string ⟨#[]⟩, .string ⟨#[]⟩]).all (·.oneCell') = true := by kernel_rfl
    have x0 : W2.cell? ⟨w.heap.size, 0, none⟩ = some (.int .i64 0) := X2.cell rfl
    have x1 : W2.cell? ⟨w.heap.size, 1, none⟩ = some (.string ⟨#[]⟩) := X2.cell rfl
    have x2 : W2.cell? ⟨w.heap.size, 2, none⟩ = some (.string ⟨#[]⟩) := X2.cell rfl
    have HH : Hid _ := hzs
    clear hzs hsz h hi h1 hn
    go_enter Try.func16, Try.ntmps16
    go_wp2_with fail
    refine hr.mono ?_
    rintro e w1 ⟨rfl, hw1⟩
    obtain rfl := hw1.symm
    go_wp2_with (with_reducible refine st_row X0 hinf hs hone hW2 rfl rfl ?_)
    (try simp only [Exit.inBlock, Exit.then])
    refine bodyPost_ret (v := .tuple #[.agg #[.int .i64 0, .string ⟨#[]⟩, .string ⟨#[]⟩], .bool false]) (by simp [results, Try.results16, go_sem, x0, x1, x2]) rfl ?_
    exact ⟨rfl, hb⟩
set_option maxHeartbeats 4000000 in
set_option maxRecDepth 100000 in
theorem voted4_calls (h : Lg w p mp L) (hi : LInv L) (q f : Int) : Calls Try.prog 16 #[.pointer (some ⟨p, 0, none⟩), .int .i64 4, .int .i64 q, .int .i64 f] w fun e w' => e = .returned (.tuple #[.agg #[.int .i64 (msgOf (L.votedV 4 q f)).1, .string (msgOf (L.votedV 4 q f)).2.1, .string (msgOf (L.votedV 4 q f)).2.2], .bool (L.votedV 4 q f).isSome]) ∧ Below w.heap.size w w' := by
  by_cases h1 : L.wi q = true
  · obtain ⟨W0, hW0, X0, b0⟩ := sign_zero w
    have h0 := h.below b0
    have hr := at_calls h0 hi q
    unfold slP at hr
    rw [if_pos h1] at hr
    obtain ⟨lv, hs, _⟩ := h0.slot (pla q) (pla_lt q)
    have hcj : W0.cell? ⟨p, 3 + pla q * 13 + 4, none⟩ = some (.map (mp (2 * pla q + 1))) := hs 4 _ rfl
    have hmj : MapAt W0 (mp (2 * pla q + 1)) (L.sl (pla q)).co := h0.mco (pla_lt q)
    unfold Lv.votedV
    rw [if_pos h1]
    rw [show (L.sl (pla q)).vts 4 = (L.sl (pla q)).co from rfl]
    generalize (L.sl (pla q)).co = l at *
    generalize mp (2 * pla q + 1) = pl at *
    clear hs h h0 h1
    generalize 3 + pla q * 13 = o at *
    have HV : Hid _ := fun wx => votes4_calls wx p o
    have hlk := run_look Try.underlying61 Try.underlying3 zeroVote hmj f
    rw [← vgetZ_msg]
    generalize (vget l f).isSome = ok at *
    obtain ⟨⟨v0, v1, v2, v3, v4⟩, hvz⟩ : ∃ x, vgetZ l f = x := ⟨_, rfl⟩
    rw [hvz] at hlk ⊢
    have hlk2 : (Instr.lookup 61 (.map pl) (.int .i64 f) true).run Try.prog W0 = .ok (.tuple #[.agg #[.int .i64 v0, .string v1, .int .i64 v2, .string v3, .string v4], .bool ok]) W0 := hlk
    show Calls _ _ _ _ fun e w' => e = .returned (.tuple #[.agg #[.int .i64 v2, .string v3, .string v4], .bool ok]) ∧ Below w.heap.size w w'
    have hz0 : w.heap.size < W0.heap.size := X0.lt
    obtain ⟨W1, hW1, XV, b1⟩ : ∃ W1, W0.alloc (.cells #[.int .i64 v0, .string v1, .int .i64 v2, .string v3, .string v4] 82) = W1 ∧ Blk W1 W0.heap.size #[.int .i64 v0, .string v1, .int .i64 v2, .string v3, .string v4] 82 ∧ Below W0.heap.size W0 W1 := ⟨_, rfl, blk_new _ _ _ _ rfl, by go_grown⟩
    have X1 := X0.below b1
    have t2 : W1.cell? ⟨W0.heap.size, 2, none⟩ = some (.int .i64 v2) := XV.cell rfl
    have t3 : W1.cell? ⟨W0.heap.size, 3, none⟩ = some (.string v3) := XV.cell rfl
    have t4 : W1.cell? ⟨W0.heap.size, 4, none⟩ = some (.string v4) := XV.cell rfl
    obtain ⟨W2, hW2, X2, o2, z2, os2, tp2, ou2⟩ := setRow_named X1 #[.int .i64 v2, .string v3, .string v4]
    have HB : Hid (Below w.heap.size w W2) := below_row (B := w.heap.size) (b0.trans (b1.mono (by omega))) hW2 (Nat.le_refl _)
    have hinf : (Try.prog.info? 38).map (·.size) = some (#[Value.int .i64 v2, .string v3, .string v4]).size := by kernel_rfl
    have HSz : Hid ((#[Value.int .i64 0, .string ⟨#[]⟩, .string ⟨#[]⟩]).size = (#[Value.int .i64 v2, .string v3, .string v4]).size) := rfl
    have hone : (#[Value.int .i64 v2, .string v3, .string v4]).all (·.oneCell') = true := by kernel_rfl
    have x0 : W2.cell? ⟨w.heap.size, 0, none⟩ = some (.int .i64 v2) := X2.cell rfl
    have x1 : W2.cell? ⟨w.heap.size, 1, none⟩ = some (.string v3) := X2.cell rfl
    have x2 : W2.cell? ⟨w.heap.size, 2, none⟩ = some (.string v4) := X2.cell rfl
    have HX1 : Hid (Blk W1 w.heap.size #[.int .i64 0, .string ⟨#[]⟩, .string ⟨#[]⟩] 38) := X1
    clear hlk hvz hmj X0 X1 X2 XV b0 b1 o2 z2 os2 tp2 ou2
    go_enter Try.func16, Try.ntmps16
    go_wp2_with fail
    refine hr.mono ?_
    rintro e w1 ⟨rfl, hw1⟩
    obtain rfl := hw1.symm
    go_wp2_with fail
    refine Calls.mono (HV.out _) ?_
    rintro e w2 ⟨rfl, hw2⟩
    obtain rfl := hw2.symm
    go_wp2_with (with_reducible refine st_row HX1.out hinf HSz.out hone hW2 rfl rfl ?_)
    (try simp only [Exit.inBlock, Exit.then])
    refine bodyPost_ret (v := .tuple #[.agg #[.int .i64 v2, .string v3, .string v4], .bool ok]) (by simp [results, Try.results16, go_sem, x0, x1, x2]) rfl ?_
    exact ⟨rfl, HB.out⟩
  · have hn : L.votedV 4 q f = none := by unfold Lv.votedV; rw [if_neg h1]
    rw [hn]
    show Calls _ _ _ _ fun e w' => e = .returned (.tuple #[.agg #[.int .i64 0, .string ⟨#[]⟩, .string ⟨#[]⟩], .bool false]) ∧ Below w.heap.size w w'
    obtain ⟨zs, hzs, hsz⟩ : ∃ zs : Array Value, zs = #[.int .i64 0, .string ⟨#[]⟩, .string ⟨#[]⟩] ∧ zs.size = 3 := ⟨_, rfl, rfl⟩
    obtain ⟨W0, hW0, X0, b0⟩ : ∃ W0, (w.alloc (.cells #[.int .i64 0, .string ⟨#[]⟩, .string ⟨#[]⟩] 38)) = W0 ∧ Blk W0 w.heap.size zs 38 ∧ Below w.heap.size w W0 := ⟨_, rfl, by rw [hzs]; exact blk_new _ _ _ _ rfl, by go_grown⟩
    have hr := at_calls (h.below b0) hi q
    unfold slP at hr
    rw [if_neg h1] at hr
    obtain ⟨W2, hW2, X2, o2, z2, os2, tp2, ou2⟩ := setRow_named X0 #[.int .i64 0, .string ⟨#[]⟩, .string ⟨#[]⟩]
    have hb : Below w.heap.size w W2 := below_row (B := w.heap.size) b0 hW2 (Nat.le_refl _)
    have hinf : (Try.prog.info? 38).map (·.size) = some (#[Value.int .i64 0, .string ⟨#[]⟩, .string ⟨#[]⟩]).size := by kernel_rfl
    have hs : zs.size = (#[Value.int .i64 0, .string ⟨#[]⟩, .string ⟨#[]⟩]).size := hsz
    have hone : (#[Value.int .i64 0, .string ⟨#[]⟩, .string ⟨#[]⟩]).all (·.oneCell') = true := by kernel_rfl
    have x0 : W2.cell? ⟨w.heap.size, 0, none⟩ = some (.int .i64 0) := X2.cell rfl
    have x1 : W2.cell? ⟨w.heap.size, 1, none⟩ = some (.string ⟨#[]⟩) := X2.cell rfl
    have x2 : W2.cell? ⟨w.heap.size, 2, none⟩ = some (.string ⟨#[]⟩) := X2.cell rfl
    have HH : Hid _ := hzs
    clear hzs hsz h hi h1 hn
    go_enter Try.func16, Try.ntmps16
    go_wp2_with fail
    refine hr.mono ?_
    rintro e w1 ⟨rfl, hw1⟩
    obtain rfl := hw1.symm
    go_wp2_with (with_reducible refine st_row X0 hinf hs hone hW2 rfl rfl ?_)
    (try simp only [Exit.inBlock, Exit.then])
    refine bodyPost_ret (v := .tuple #[.agg #[.int .i64 0, .string ⟨#[]⟩, .string ⟨#[]⟩], .bool false]) (by simp [results, Try.results16, go_sem, x0, x1, x2]) rfl ?_
    exact ⟨rfl, hb⟩
end Go.Proofs.Ytjpmnmgnbpecjaa
