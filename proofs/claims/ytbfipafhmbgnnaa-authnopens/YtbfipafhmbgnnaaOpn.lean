/- AuthnOpens for every input: what it answers. -/
import Derived.Test.YtbfipafhmbgnnaaRnd
import Derived.Test.YtbfipafhmbgnnaaBdO
import Derived.Test.YtbfipafhmbgnnaaSame
namespace Go.Proofs.Ytbfipafhmbgnnaa
open Go.RowKit
set_option linter.unusedSimpArgs false
set_option linter.unusedVariables false

/-- What a reading of a body gives, without its cases. -/
theorem gotBd_form (s : ByteArray) : ∃ (q : Bd) (er : Int), q.list.length ≤ 64 ∧ (∀ m ∈ q.list, m.body.size ≤ maxLen ∧ m.sig.size ≤ maxLen) ∧ ∀ (w : World) (e : Ending) (w' : World), ReadsO (ofR s) w e w' → ∃ v, e = .returned (.tuple #[q.val v, .int .i64 er]) ∧ w'.ownsRow w.heap.size 28 3 v q.list.length (sgCells q.list) ∧ Below w.heap.size w w' := by
  cases h : ofR s with
  | error er => exact ⟨zeroBd, er, by simp [zeroBd], fun m hm => by simp [zeroBd] at hm, fun w e w' ⟨h1, h2⟩ => ⟨.slice none 0 0, h1, World.ownsRow_nil _ _ _ _, h2⟩⟩
  | ok q =>
    have hl : q.list.length ≤ 64 ∧ ∀ m ∈ q.list, m.body.size ≤ 1048576 ∧ m.sig.size ≤ 1048576 := by
      unfold ofR at h
      split at h
      · cases h
      · split at h
        · cases h
        · rename_i b' nx hr
          have hle := rdBd_le hr
          split at h
          · cases h
          · split at h
            · cases h; exact ⟨hle.2.2.2.1, hle.2.2.2.2⟩
            · cases h
    exact ⟨q, 0, hl.1, fun m hm => ⟨Nat.le_trans (hl.2 m hm).1 (by unfold maxLen; decide), Nat.le_trans (hl.2 m hm).2 (by unfold maxLen; decide)⟩, fun w e w' ⟨v, h1, h2, h3⟩ => ⟨v, h1, h2, h3⟩⟩

theorem sameB_self (b : Bd) : sameB b b = true := (sameB_iff b b).2 rfl
theorem chk_new (r : Int) (t : ByteArray) (h : isSg r = true) : chkB (note [] (r, t)) r t (sgnB (num (note [] (r, t)) (r, t))) = true := by
  unfold chkB chk
  rw [h, (isIn_iff _ _).2 ((mem_note _ _ _).2 (Or.inr rfl))]
  simp

set_option maxHeartbeats 1000000 in
set_option maxRecDepth 100000 in
theorem opens_calls (who : Int) (body : ByteArray) (w : World) (hs : body.size ≤ 140737488351232) :
    Calls Try.prog 4 #[.int .i64 who, .string body] w fun e w' => e = .returned (.bool true) ∧ Below w.heap.size w w' := by
  have HN : Hid _ := newBook_calls
  have HA : Hid _ := awake_calls
  have hm : body.size ≤ maxLen := by unfold maxLen; omega
  have hrd := fun wx => round_calls who 256 wx (by decide) (by decide)
  have hrb := rnd_bounds who 256 (by decide) (by decide)
  obtain ⟨r, hr⟩ : ∃ r, rnd who 256 = r := ⟨_, rfl⟩
  rw [hr] at hrd hrb
  have hsg : isSg r = true := by unfold isSg; simp only [decide_eq_true_eq]; omega
  obtain ⟨q, er, hq64, hqm, hx⟩ := gotBd_form body
  have hch := chk_new r body hsg
  have hS := fun wx p b x y h => bookSign_calls (p := p) (b := b) (x := x) (y := y) (T := []) (S := []) r body wx h (by decide) hs
  unfold signR signS at hS
  rw [hsg] at hS
  simp only [if_true] at hS
  have hln : (note ([] : List (Int × ByteArray)) (r, body)).length ≤ 1 := note_len _ _
  generalize note ([] : List (Int × ByteArray)) (r, body) = S at *
  generalize sgnB (num S (r, body)) = sgv at *
  have hO := fun wx p b x y h => open_calls (p := p) (b := b) (x := x) (y := y) (T := []) (S := S) ⟨r, body, sgv⟩ wx h (by omega) hm
  have hop : openR S ⟨r, body, sgv⟩ = ofR body := by unfold openR; rw [if_pos hch]
  rw [hop] at hO
  have hrf := fun wx => of_ref body wx hm
  have hsm := fun va vb wx (ha : Sgs wx va q.list) (hb : Sgs wx vb q.list) => same_ref q q va vb wx ha hb (by omega) (by omega)
  rw [sameB_self] at hsm
  have HO : Hid _ := hO
  have HS : Hid _ := hS
  have HR : Hid _ := hrf
  have HX : Hid _ := hx
  have HSM : Hid _ := hsm
  have HQM : Hid _ := hqm
  have HRD : Hid _ := hrd
  clear hO hS hrf hx hsm hqm hrd hch hop hr
  go_enter Try.func4, Try.ntmps4
  go_wp2_with fail
  refine (HN.out _).mono ?_
  rintro e w1 ⟨p, b, x, y, rfl, K1, b1, hp, hb, hx', hy⟩
  have z1 := b1.size
  go_wp2_with fail
  refine (HRD.out _).mono ?_
  rintro e w1 ⟨rfl, rfl⟩
  go_wp2_with fail
  refine (HS.out _ p b x y K1).mono ?_
  rintro e w2 ⟨rfl, K2, o2⟩
  have B2 := o2.below hx' hy b1 z1
  have z2 := B2.size
  go_wp2_with fail
  refine (HO.out _ p b x y K2).mono ?_
  intro e w3 g3
  obtain ⟨va, rfl, ownA, b3⟩ := HX.out _ _ _ g3
  clear g3
  obtain ⟨pa, ca, rfl⟩ := sgs_of_own' ownA
  have z3 := b3.size
  obtain ⟨W4, hW4, XA, B4, Z4⟩ : ∃ W4, (w3.alloc (.cells #[.int .i64 q.kind, .int .i64 q.view, .int .i64 q.seq, .int .i64 q.client, .int .i64 q.stamp, .string q.digest, .string q.text, .slice pa q.list.length ca] 24)) = W4 ∧ Blk W4 w3.heap.size (q.cells (.slice pa q.list.length ca)) 24 ∧ Below w3.heap.size w3 W4 ∧ W4.heap.size = w3.heap.size + 1 :=
    ⟨_, rfl, blk_new _ _ _ _ rfl, by go_grown, by simp⟩
  unfold Bd.val
  go_wp2_with fail
  refine (HR.out _).mono ?_
  intro e w5 g5
  obtain ⟨vb, rfl, ownB, b5⟩ := HX.out _ _ _ g5
  clear g5
  obtain ⟨pb, cb, rfl⟩ := sgs_of_own' ownB
  have z5 := b5.size
  obtain ⟨W6, hW6, XB, B6, Z6⟩ : ∃ W6, (w5.alloc (.cells #[.int .i64 q.kind, .int .i64 q.view, .int .i64 q.seq, .int .i64 q.client, .int .i64 q.stamp, .string q.digest, .string q.text, .slice pb q.list.length cb] 24)) = W6 ∧ Blk W6 w5.heap.size (q.cells (.slice pb q.list.length cb)) 24 ∧ Below w5.heap.size w5 W6 ∧ W6.heap.size = w5.heap.size + 1 :=
    ⟨_, rfl, blk_new _ _ _ _ rfl, by go_grown, by simp⟩
  have XA6 := (XA.below b5).below B6
  have ownA6 := own_below (own_below (own_below ownA B4) b5) B6
  have ownB6 := own_below ownB B6
  have hmA := HSM.out _ _ W6 (sgs_of_own ownA6 HQM.out) (sgs_of_own ownB6 HQM.out)
  have HMA : Hid _ := hmA
  have BB : Below w.heap.size w W6 := ((((B2.trans (b3.mono z2)).trans (B4.mono (by omega))).trans (b5.mono (by omega))).trans (B6.mono (by omega)))
  clear ownA ownB ownA6 ownB6 hmA B4 b5 B6 b3
  have x0 : W6.cell? ⟨w3.heap.size, 0, none⟩ = some (.int .i64 q.kind) := XA6.cell rfl
  have y0 : W6.cell? ⟨w5.heap.size, 0, none⟩ = some (.int .i64 q.kind) := XB.cell rfl
  have x1 : W6.cell? ⟨w3.heap.size, 1, none⟩ = some (.int .i64 q.view) := XA6.cell rfl
  have y1 : W6.cell? ⟨w5.heap.size, 1, none⟩ = some (.int .i64 q.view) := XB.cell rfl
  have x2 : W6.cell? ⟨w3.heap.size, 2, none⟩ = some (.int .i64 q.seq) := XA6.cell rfl
  have y2 : W6.cell? ⟨w5.heap.size, 2, none⟩ = some (.int .i64 q.seq) := XB.cell rfl
  have x3 : W6.cell? ⟨w3.heap.size, 3, none⟩ = some (.int .i64 q.client) := XA6.cell rfl
  have y3 : W6.cell? ⟨w5.heap.size, 3, none⟩ = some (.int .i64 q.client) := XB.cell rfl
  have x4 : W6.cell? ⟨w3.heap.size, 4, none⟩ = some (.int .i64 q.stamp) := XA6.cell rfl
  have y4 : W6.cell? ⟨w5.heap.size, 4, none⟩ = some (.int .i64 q.stamp) := XB.cell rfl
  have x5 : W6.cell? ⟨w3.heap.size, 5, none⟩ = some (.string q.digest) := XA6.cell rfl
  have y5 : W6.cell? ⟨w5.heap.size, 5, none⟩ = some (.string q.digest) := XB.cell rfl
  have x6 : W6.cell? ⟨w3.heap.size, 6, none⟩ = some (.string q.text) := XA6.cell rfl
  have y6 : W6.cell? ⟨w5.heap.size, 6, none⟩ = some (.string q.text) := XB.cell rfl
  have x7 : W6.cell? ⟨w3.heap.size, 7, none⟩ = some (.slice pa q.list.length ca) := XA6.cell rfl
  have y7 : W6.cell? ⟨w5.heap.size, 7, none⟩ = some (.slice pb q.list.length cb) := XB.cell rfl
  unfold Bd.val
  go_wp2_with fail
  refine (Calls.mono HMA.out) ?_
  rintro e w7 ⟨rfl, b7⟩
  have B7 := BB.trans (b7.mono BB.size)
  go_wp2_with fail
  refine (HA.out _).mono ?_
  rintro e w8 ⟨rfl, b8⟩
  go_wp2
  go_ret
  exact ⟨rfl, B7.trans (b8.mono B7.size)⟩
end Go.Proofs.Ytbfipafhmbgnnaa
