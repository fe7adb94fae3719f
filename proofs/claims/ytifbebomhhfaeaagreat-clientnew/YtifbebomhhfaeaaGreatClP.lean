/- What a client's messages are, and what it makes of replies: as data. -/
import Derived.Test.YtifbebomhhfaeaaGreatClC
namespace Go.Proofs.YtifbebomhhfaeaaGreat
open Go.RowKit
set_option linter.unusedSimpArgs false
set_option linter.unusedVariables false

/-- A body with a client, a stamp and a text alone. -/
def smB (k c s : Int) (t : ByteArray) : Bd := ⟨k, 0, 0, c, s, ⟨#[]⟩, t, []⟩
theorem flds_small (k c s : Int) (t : ByteArray) : flds (smB k c s t) = (c != 0).toNat * 4 + (s != 0).toNat * 8 + (!t.toList.isEmpty).toNat * 32 := by
  unfold flds smB
  simp
theorem small_len (k c s : Int) (t : ByteArray) (ht : t.size ≤ 256) : (bdB (smB k c s t)).length ≤ 400 := by
  unfold bdB smB
  simp only [List.length_append, List.length_nil]
  have h0 := enc_le k.toNat
  have h1 := enc_le (0 : Int).toNat
  have h2 := enc_le c.toNat
  have h3 := enc_le s.toNat
  have h4 := txtB_len ⟨#[]⟩
  have h5 := txtB_len t
  have h6 := enc_le 0
  have h7 : (sgsB []).length = 0 := rfl
  have h8 : (⟨#[]⟩ : ByteArray).size = 0 := rfl
  omega
theorem right_small (k may must tx : Nat) (c s : Int) (t : ByteArray) (hk : shapeN k = some ⟨may, must, 15, 1, tx, 64⟩) (hc : 0 ≤ c ∧ c ≤ 15) (hs : 0 ≤ s ∧ s ≤ 1099511627776) (ht : t.size ≤ tx)
    (hb : ∀ (a e : Bool), bits .andNot .i64 ((a.toNat * 4 + (s != 0).toNat * 8 + e.toNat * 32 : Nat) : Int) may = 0 ∧ bits .andNot .i64 must ((a.toNat * 4 + (s != 0).toNat * 8 + e.toNat * 32 : Nat) : Int) = 0) : right (smB k c s t) = 0 := by
  have h1 : shape (smB k c s t).kind = some ⟨may, must, 15, 1, tx, 64⟩ := by
    show shape (k : Int) = _
    unfold shape
    rw [if_pos (by omega), Int.toNat_natCast, hk]
  unfold right
  rw [h1]
  have h2 : badBits (smB k c s t) ⟨may, must, 15, 1, tx, 64⟩ = false := by
    unfold badBits
    rw [flds_small]
    have := hb (c != 0) (!t.toList.isEmpty)
    simp only [this.1, this.2]
    rfl
  have h3 : fitsN (smB k c s t) ⟨may, must, 15, 1, tx, 64⟩ = true := by
    unfold fitsN smB
    simp only [Bool.and_eq_true, decide_eq_true_eq, beq_iff_eq]
    refine ⟨⟨⟨⟨⟨by omega, by omega⟩, by omega, by omega⟩, ?_⟩, hc.1, by simpa using hc.2⟩, hs.1, hs.2⟩
    rfl
  have h4 : fitsT (smB k c s t) ⟨may, must, 15, 1, tx, 64⟩ = true := by
    unfold fitsT smB
    simp only [Bool.and_eq_true, decide_eq_true_eq, List.all_nil, and_true]
    refine ⟨⟨by decide, by simpa using ht⟩, by simp⟩
  simp only [h2, h3, h4]
  rfl
theorem byE_small {d : Bd} (h : right d = 0) (hl : (bdB d).length ≤ 400) : byE d = 0 := by
  unfold byE
  rw [if_pos h, if_neg (by omega)]
theorem request_right (c s : Int) (t : ByteArray) (hc : 0 ≤ c ∧ c ≤ 15) (hs : 1 ≤ s ∧ s ≤ 1099511627776) (ht : t.size ≤ 256) : byE (smB 1 c s t) = 0 := by
  have e : (s != 0) = true := by simp; omega
  refine byE_small (right_small 1 44 8 256 c s t rfl hc (by omega) ht fun a e2 => ?_) (small_len _ _ _ _ ht)
  rw [e]
  cases a <;> cases e2 <;> exact ⟨by decide +kernel, by decide +kernel⟩
theorem reply_right (c s : Int) (t : ByteArray) (hc : 0 ≤ c ∧ c ≤ 15) (hs : 1 ≤ s ∧ s ≤ 1099511627776) (ht : t.size ≤ 256) : byE (smB 10 c s t) = 0 := by
  have e : (s != 0) = true := by simp; omega
  refine byE_small (right_small 10 45 8 256 c s t rfl hc (by omega) ht fun a e2 => ?_) (small_len _ _ _ _ ht)
  rw [e]
  cases a <;> cases e2 <;> exact ⟨by decide +kernel, by decide +kernel⟩
theorem ask_right (c : Int) (t : ByteArray) (hc : 0 ≤ c ∧ c ≤ 15) (ht : t.size ≤ 64) : byE (smB 12 c 0 t) = 0 := by
  refine byE_small (right_small 12 36 0 64 c 0 t rfl hc (by omega) ht fun a e2 => ?_) (small_len _ _ _ _ (by omega))
  cases a <;> cases e2 <;> exact ⟨by decide +kernel, by decide +kernel⟩

/-- A message that was made, opened. -/
theorem sgM_ok (S : List (Int × ByteArray)) (who : Int) (d : Bd) (hw : isSg who = true) : sgOk (sgM S who d) = true := by
  have h1 := byS_size d
  have h2 := sgnB_size (num (note S (who, byS d)) (who, byS d))
  unfold isSg at hw
  unfold sgOk sgM
  simp only [Bool.and_eq_true, decide_eq_true_eq] at hw ⊢
  omega
theorem note_mem {α : Type} [DecidableEq α] (l : List α) (k : α) : k ∈ note l k := by
  by_cases h : k ∈ l
  · rw [note_old h]; exact h
  · rw [note_new h]; simp
theorem open_sgM (S : List (Int × ByteArray)) (who : Int) (d : Bd) (hw : isSg who = true) (he : byE d = 0) : openR (note S (who, byS d)) (sgM S who d) = .ok d := by
  have hm : isIn (note S (who, byS d)) (who, byS d) = true := (isIn_iff _ _).2 (note_mem _ _)
  have h := byE_ok he
  unfold openR chkB chk sgM
  simp only [hw, hm, decide_true, Bool.and_self, if_true]
  unfold byS
  rw [if_pos he]
  exact of_bytes d h.1 (by omega)
theorem of_sgM (S : List (Int × ByteArray)) (who : Int) (d : Bd) (hw : isSg who = true) : ofSgR ⟨(sgB (sgM S who d)).toArray⟩ = .ok (sgM S who d) := ofSg_bytes _ (sgM_ok S who d hw)

/-- What a client hears in bytes. -/
def heard (C : Cs) (S : List (Int × ByteArray)) (s : ByteArray) : Option (Int × ByteArray) :=
  match ofSgR s with
  | .error _ => none
  | .ok m =>
    match openR S m with
    | .error _ => none
    | .ok d => if m.frm < 3 * C.cf + 1 ∧ (d.kind = 10 ∧ d.client = C.id ∧ d.stamp = C.stamp) ∧ rgot C.told m.frm = false then some (m.frm, d.text) else none
def Cs.hear (C : Cs) : Option (Int × ByteArray) → Cs
  | none => C
  | some x => if C.cf < (alk (C.told ++ [x]) x.2 : Int) then { C with told := [], asked := ⟨#[]⟩, ans := C.ans ++ [(C.stamp, x.2)] } else { C with told := C.told ++ [x] }
def Cs.recv (C : Cs) (S : List (Int × ByteArray)) (s : ByteArray) : Option (Int × ByteArray) := if C.waits = true then heard C S s else none
theorem heard_reply (C : Cs) (S : List (Int × ByteArray)) (who c st : Int) (t : ByteArray) (hw : isSg who = true) (hc : 0 ≤ c ∧ c ≤ 15) (hs : 1 ≤ st ∧ st ≤ 1099511627776) (ht : t.size ≤ 256) :
    heard C (note S (who, byS (smB 10 c st t))) ⟨(sgB (sgM S who (smB 10 c st t))).toArray⟩ = if who < 3 * C.cf + 1 ∧ (c = C.id ∧ st = C.stamp) ∧ rgot C.told who = false then some (who, t) else none := by
  unfold heard
  rw [of_sgM S who _ hw]
  simp only []
  rw [open_sgM S who _ hw (reply_right c st t hc hs ht)]
  simp only [smB, sgM, true_and]
end Go.Proofs.YtifbebomhhfaeaaGreat
