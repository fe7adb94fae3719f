/- Of messages that are made of votes just the good ones are votes; how many signed, counted twice over. -/
import Derived.Test.YtpncomnfodiliaaSl
namespace Go.Proofs.Ytpncomnfodiliaa
open Go.RowKit
set_option linter.unusedSimpArgs false
set_option linter.unusedVariables false

theorem sealS_keep {S : List (Int × ByteArray)} {q : Int × ByteArray} (w : Int) (d : Bd) (h : q ∈ S) : q ∈ sealS S w d ∧ num (sealS S w d) q = num S q := by
  unfold sealS signS
  split
  · split
    · exact ⟨(mem_note _ _ _).2 (Or.inl h), num_note _ h⟩
    · exact ⟨h, rfl⟩
  · exact ⟨h, rfl⟩
theorem fold_keep (l : List Vt) {S : List (Int × ByteArray)} {q : Int × ByteArray} (h : q ∈ S) : q ∈ l.foldl (fun S v => sealS S v.who v.bd) S ∧ num (l.foldl (fun S v => sealS S v.who v.bd) S) q = num S q := by
  induction l generalizing S with
  | nil => exact ⟨h, rfl⟩
  | cons a l ih =>
    have h1 := sealS_keep a.who a.bd h
    have h2 := ih h1.1
    exact ⟨h2.1, h2.2.trans h1.2⟩
theorem sig_size (S : List (Int × ByteArray)) (m : Sg) (h : chkB S m.frm m.body m.sig = true) : m.sig.size = 9 ∧ (m.frm, m.body) ∈ S ∧ m.sig = sgnB (num S (m.frm, m.body)) := by
  unfold chkB chk at h
  simp only [Bool.and_eq_true, decide_eq_true_eq] at h
  obtain ⟨_, h1, h2⟩ := h
  exact ⟨by rw [h2]; rfl, (isIn_iff _ _).1 h1, h2⟩
theorem size_app1 (s : ByteArray) : (s ++ (⟨#[120]⟩ : ByteArray)).size = s.size + 1 := by
  rw [ByteArray.size_append]; rfl

/-- A message that is made of a vote: is it one for this, behind all that is signed? -/
theorem vote_of (S S' : List (Int × ByteArray)) (v : Vt) (kind view seq : Int) (dg : ByteArray) (hS : ∀ q ∈ sealS S v.who v.bd, q ∈ S' ∧ num S' q = num (sealS S v.who v.bd) q) (hl : S'.length < 1000000) :
    (isSg (vMsg S v).frm && vote S' kind view seq dg (vMsg S v)) = (vOk v && (decide (v.bd.kind = kind) && decide (v.view = view) && decide (v.seq = seq) && decide (v.dg = dg))) ∧ (vOk v = true → (vMsg S v).frm = v.who) := by
  have hbad : openR S' (vMsg S v) = .error 30 → vOk v = false → (isSg (vMsg S v).frm && vote S' kind view seq dg (vMsg S v)) = (vOk v && (decide (v.bd.kind = kind) && decide (v.view = view) && decide (v.seq = seq) && decide (v.dg = dg))) := fun h1 h2 => by
    have : vote S' kind view seq dg (vMsg S v) = false := by unfold vote; rw [h1]
    rw [this, h2]; simp
  have hno : ¬ chkB S' (vMsg S v).frm (vMsg S v).body (vMsg S v).sig = true → openR S' (vMsg S v) = .error 30 := fun h => by unfold openR; rw [if_neg h]
  by_cases he : byE v.bd = 0 ∧ isSg v.who = true
  · have hR : (sealR S v.who v.bd).1 = ⟨v.who, byS v.bd, sgnB (num (note S (v.who, byS v.bd)) (v.who, byS v.bd))⟩ := by unfold sealR; rw [if_pos he.1, if_pos he.2]
    have hS1 : sealS S v.who v.bd = note S (v.who, byS v.bd) := by unfold sealS signS; rw [if_pos he.1, if_pos he.2]
    rw [hS1] at hS
    have hin := hS (v.who, byS v.bd) ((mem_note _ _ _).2 (Or.inr rfl))
    by_cases h1 : v.spoilt = 1
    · have hm : vMsg S v = ⟨v.who, byS v.bd, sgnB (num (note S (v.who, byS v.bd)) (v.who, byS v.bd)) ++ ⟨#[120]⟩⟩ := by unfold vMsg spoil; rw [hR, if_pos h1]
      have hk : vOk v = false := by unfold vOk; simp [h1]
      refine ⟨hbad (hno fun h => ?_) hk, fun h => by rw [hk] at h; cases h⟩
      have := (sig_size _ _ h).1
      rw [hm] at this
      simp only [size_app1] at this
      have h9 : (sgnB (num (note S (v.who, byS v.bd)) (v.who, byS v.bd))).size = 9 := rfl
      omega
    · by_cases h2 : v.spoilt = 2
      · have hm : vMsg S v = ⟨v.who + 1, byS v.bd, sgnB (num (note S (v.who, byS v.bd)) (v.who, byS v.bd))⟩ := by unfold vMsg spoil; rw [hR, if_neg h1, if_pos h2]
        have hk : vOk v = false := by unfold vOk; simp [h2]
        refine ⟨hbad (hno fun h => ?_) hk, fun h => by rw [hk] at h; cases h⟩
        have h3 := sig_size _ _ h
        rw [hm] at h3
        obtain ⟨_, h4, h5⟩ := h3
        simp only at h4 h5
        rw [← hin.2] at h5
        have n1 := num_le S' (v.who, byS v.bd)
        have n2 := num_le S' (v.who + 1, byS v.bd)
        have h6 := num_inj hin.1 h4 (sgnB_inj (by omega) (by omega) h5)
        injection h6 with h7 _
        omega
      · have hm : vMsg S v = ⟨v.who, byS v.bd, sgnB (num (note S (v.who, byS v.bd)) (v.who, byS v.bd))⟩ := by unfold vMsg spoil; rw [hR, if_neg h1, if_neg h2]
        have hk : vOk v = true := by unfold vOk; simp [h1, h2, he.1, he.2]
        refine ⟨?_, fun _ => by rw [hm]⟩
        have hch : chkB S' v.who (byS v.bd) (sgnB (num (note S (v.who, byS v.bd)) (v.who, byS v.bd))) = true := by
          unfold chkB chk
          rw [he.2, (isIn_iff _ _).2 hin.1, ← hin.2]
          simp
        have hop : openR S' (vMsg S v) = .ok v.bd := by
          rw [hm]; unfold openR
          rw [if_pos hch]
          have h := byE_ok he.1
          unfold byS
          rw [if_pos he.1]
          exact of_bytes v.bd h.1 (by omega)
        have hvo : vote S' kind view seq dg (vMsg S v) = (decide (v.bd.kind = kind) && decide (v.view = view) && decide (v.seq = seq) && decide (v.dg = dg)) := by unfold vote; rw [hop]; rfl
        rw [hvo, hk, hm, he.2]
  · have hk : vOk v = false := by
      unfold vOk
      by_cases h1 : byE v.bd = 0
      · have h2 : isSg v.who = false := by cases h3 : isSg v.who
                                           · rfl
                                           · exact absurd ⟨h1, h3⟩ he
        simp [h2]
      · simp [h1]
    have hR : (sealR S v.who v.bd).1 = zeroSg := by
      unfold sealR
      by_cases h1 : byE v.bd = 0
      · rw [if_pos h1, if_neg (fun h2 => he ⟨h1, h2⟩)]
      · rw [if_neg h1]
    refine ⟨hbad (hno fun h => ?_) hk, fun h => by rw [hk] at h; cases h⟩
    have := (sig_size _ _ h).1
    unfold vMsg spoil at this
    rw [hR] at this
    split at this
    · rw [size_app1] at this
      exact absurd this (by decide)
    · split at this
      · exact absurd this (by decide)
      · exact absurd this (by decide)

/-- Who is counted by the statement behind one vote more. -/
def lstep (kind view seq : Int) (dg : ByteArray) (below : Int) (acc : List Int) (v : Vt) : List Int :=
  if vOk v = true ∧ v.who < below ∧ 3 + rnd v.kind 2 = kind ∧ v.view = view ∧ v.seq = seq ∧ v.dg = dg ∧ v.who ∉ acc then acc ++ [v.who] else acc
theorem count_same (l : List Vt) (S S' : List (Int × ByteArray)) (kind view seq : Int) (dg : ByteArray) (below : Int) (acc : List Int) (hS : S' = l.foldl (fun S v => sealS S v.who v.bd) S) (hl : S'.length < 1000000) :
    (vMs l S).foldl (qstep (vote S' kind view seq dg) below) acc = l.foldl (lstep kind view seq dg below) acc := by
  induction l generalizing S acc with
  | nil => rfl
  | cons v l ih =>
    simp only [vMs, List.foldl_cons]
    have h1 := vote_of S S' v kind view seq dg (fun q hq => by rw [hS]; exact fold_keep l hq) hl
    have h2 : qstep (vote S' kind view seq dg) below acc (vMsg S v) = lstep kind view seq dg below acc v := by
      unfold qstep lstep
      cases hk : vOk v
      · rw [hk] at h1
        have h3 := h1.1
        simp only [Bool.false_and] at h3
        rw [if_neg, if_neg]
        · simp
        · rintro ⟨a1, a2, a3, a4⟩
          rw [a1, a4] at h3
          cases h3
      · rw [hk] at h1
        have hf := h1.2 rfl
        have h3 := h1.1
        rw [Bool.true_and] at h3
        rw [hf] at h3 ⊢
        by_cases hc : isSg v.who = true ∧ v.who < below ∧ v.who ∉ acc ∧ vote S' kind view seq dg (vMsg S v) = true
        · rw [if_pos hc, if_pos]
          obtain ⟨a1, a2, a3, a4⟩ := hc
          rw [a1, a4] at h3
          have h4 := h3.symm
          simp only [Bool.and_true, Bool.and_eq_true, decide_eq_true_eq] at h4
          exact ⟨rfl, a2, h4.1.1.1, h4.1.1.2, h4.1.2, h4.2, a3⟩
        · rw [if_neg hc, if_neg]
          rintro ⟨_, a2, b1, b2, b3, b4, a3⟩
          have h4 : (decide (v.bd.kind = kind) && decide (v.view = view) && decide (v.seq = seq) && decide (v.dg = dg)) = true := by
            simp only [Bool.and_eq_true, decide_eq_true_eq]
            exact ⟨⟨⟨b1, b2⟩, b3⟩, b4⟩
          rw [h4] at h3
          simp only [Bool.and_eq_true] at h3
          exact hc ⟨h3.1, a2, a3, h3.2⟩
    rw [h2]
    exact ih (sealS S v.who v.bd) _ hS
end Go.Proofs.Ytpncomnfodiliaa
