/- ClientLight: the law. -/
import Derived.Test.YtocphdikppeijaaGreatLy51
import Derived.Test.YtocphdikppeijaaGreatLy33
import Derived.Deep.QuietTactic
namespace Go.Proofs.YtocphdikppeijaaGreat
open Go.RowKit
set_option linter.unusedSimpArgs false
set_option linter.unusedVariables false

variable {p b x y : Nat} {T : List ByteArray} {S : List (Int × ByteArray)}
/-- A guarded call as the next step of a held region. -/
theorem readyH_callK {P : Program} {md : Region.Mode} {ops : Array Oper} {Q : Exit → Act → World → Prop} {S : World → Prop} {fuel : Nat} {listed : Array Bool} {a : Act} {w : World} {i : Nat} {o : Oper} (ho : ops[i]? = some o) (hw : Region.wanted o (yielded ops a.tmps) = true)
    (h : ∀ K' : Act → World → Prop, Shut (∀ a w, S w → (S w → wpAnyH P md ops Q S fuel (listed.setIfInBounds i true) a w) → K' a w) → Oper.wp P o a w K' Q) : AllReadyH P md ops Q S fuel listed a w [i] :=
  AllReadyH.cons ho (fun K hK => by rw [if_pos hw]; exact h K hK) AllReadyH.nil
theorem opnd_sgM (S S' : List (Int × ByteArray)) (who : Int) (d : Bd) (hw : isSg who = true) (he : byE d = 0) (hk : Kps (note S (who, byS d)) S') : opnd S' ⟨(sgB (sgM S who d)).toArray⟩ = (who, d, 0) := by
  have h1 := of_sgM S who d hw
  have h2 := open_kps hw he hk
  unfold opnd
  rw [h1]
  simp only []
  rw [h2]
  rfl
theorem sgM_size (S : List (Int × ByteArray)) (who : Int) (d : Bd) (hw : isSg who = true) : (⟨(sgB (sgM S who d)).toArray⟩ : ByteArray).size ≤ maxLen := by
  have := sgB_len _ (sgM_ok S who d hw)
  show (sgB (sgM S who d)).length ≤ maxLen
  unfold maxLen
  omega
theorem ckM_sizes (r : ByteArray) (A : Nat → Int) (S0 : List (Int × ByteArray)) (n : Nat) (hn : n ≤ 256) : ∀ m ∈ ckM r A S0 n, m.body.size ≤ maxLen ∧ m.sig.size ≤ maxLen := fun m hm => by
  have := List.all_eq_true.1 (ckM_ok r A S0 n hn) m hm
  unfold sgOk at this
  simp only [Bool.and_eq_true, decide_eq_true_eq] at this
  unfold maxLen
  omega
/-- What Verify tells of what was shown. -/
def ToldP (p b x y : Nat) (w : World) (f : Int) (L : List Rc) (SEQ : Int) (key : ByteArray) (g : Nat) (e : Ending) (w' : World) : Prop :=
  (∃ T' S', Book w' p b x y T' S') ∧ Off2 x y w w' ∧
  (((g : Int) ≤ f ∧ e = .returned (.tuple #[.agg lightZ, .int .i64 30])) ∨
    (f < (g : Int) ∧ ∃ v h, Truth L key v h ∧ e = .returned (.tuple #[.agg #[.int .i64 SEQ, .string v, .bool h], .int .i64 0])))
theorem fitsC (f : Int) (hf : 1 ≤ f ∧ f ≤ 4) : fitsB f 3 2 5 = true := by
  unfold fitsB inB
  simp only [Bool.and_eq_true, decide_eq_true_eq]
  omega
theorem told_calls (f : Int) (hf : 1 ≤ f ∧ f ≤ 4) (L : List Rc) (SEQ : Int) (key : ByteArray) (n : Nat) (A : Nat → Int) (r : ByteArray) (q : Pf) (w : World) (h0 : riseR L = 0) (hK : isK key = true) (hn : (n : Int) ≤ 3 * f + 1) (hA : ∀ i, byE (ckB (A i) r) = 0) (hR : RootOf T L r) (hF : pfFits q = true) (hS : showsB q key = true) (hLd : LedAll T q r) (hT : T.length ≤ 100000)
    (he : byE (prB SEQ r ⟨(pfB q).toArray⟩ (ckM r A [] n)) = 0) (h : Book w p b x y T (note (ckS r A [] n) (0, byS (prB SEQ r ⟨(pfB q).toArray⟩ (ckM r A [] n))))) :
    Calls Tryz.prog 9 #[.agg #[.int .i64 f, .int .i64 3, .int .i64 2, .int .i64 5], .pointer (some ⟨p, 0, none⟩), .string key, .string ⟨(sgB (sgM (ckS r A [] n) 0 (prB SEQ r ⟨(pfB q).toArray⟩ (ckM r A [] n)))).toArray⟩] w (ToldP p b x y w f L SEQ key (forS A SEQ n).length) := by
  have hsl := ckS_len r A [] n
  simp only [List.length_nil, Nat.zero_add] at hsl
  have hnl := note_len (ckS r A [] n) ((0 : Int), byS (prB SEQ r ⟨(pfB q).toArray⟩ (ckM r A [] n)))
  have ho := opnd_sgM (ckS r A [] n) _ 0 (prB SEQ r ⟨(pfB q).toArray⟩ (ckM r A [] n)) (by decide) he (Kps.refl _)
  have hqs := qset_ck r A [] SEQ (3 * f + 1) (S' := note (ckS r A [] n) (0, byS (prB SEQ r ⟨(pfB q).toArray⟩ (ckM r A [] n)))) n (by omega) hn (fun i _ => hA i) (Kps.note _ _)
  have hqn : (qset (vote (note (ckS r A [] n) (0, byS (prB SEQ r ⟨(pfB q).toArray⟩ (ckM r A [] n)))) 5 0 SEQ r) (3 * f + 1) (ckM r A [] n)).length = (forS A SEQ n).length := by rw [hqs, List.length_map]
  have hsz := sgM_size (ckS r A [] n) 0 (prB SEQ r ⟨(pfB q).toArray⟩ (ckM r A [] n)) (by decide)
  have hml := ckM_len r A [] n
  have hok := (pfFits_parts hF).1
  by_cases hg : ((forS A SEQ n).length : Int) ≤ f
  · refine (verify_few f 3 2 5 key _ w h (by omega) hsz (fitsC f hf) (by omega) (by rw [ho]) (by rw [ho]; rfl) (by rw [ho]; show (ckM r A [] n).length < _; omega) (by rw [ho]; exact ckM_sizes r A [] n (by omega)) (by rw [ho]; show ((qset (vote _ 5 0 SEQ r) (3 * f + 1) (ckM r A [] n)).length : Int) ≤ f; rw [hqn]; exact hg)).mono ?_
    rintro e w' ⟨rfl, hb⟩
    exact ⟨⟨_, _, h.below hb⟩, Off2.of_below hb, Or.inl ⟨hg, rfl⟩⟩
  · have htz : (⟨(pfB q).toArray⟩ : ByteArray).size ≤ maxLen := by
      have := pfB_len hok
      show (pfB q).length ≤ maxLen
      unfold maxLen
      omega
    refine (verify_much f 3 2 5 key _ w h (by omega) hsz (fitsC f hf) (by omega) (by rw [ho]) (by rw [ho]; rfl) (by rw [ho]; show (ckM r A [] n).length < _; omega) (by omega) q (by rw [ho]; exact htz) (by rw [ho]; exact of_pf hok) hok (by rw [ho]; exact ckM_sizes r A [] n (by omega)) (by rw [ho]; show f < ((qset (vote _ 5 0 SEQ r) (3 * f + 1) (ckM r A [] n)).length : Int); rw [hqn]; omega)).mono ?_
    rintro e w' ⟨T', G, hc⟩
    rw [ho] at hc
    refine ⟨⟨_, _, G.book⟩, G.off, Or.inr ⟨by omega, valB q key, thereB q key, sound (by omega) hR h0 hF hS hLd, ?_⟩⟩
    rcases hc with ⟨hw, _⟩ | ⟨_, _, _, _, he⟩
    · rcases hw with e1 | e1 | e1
      · rw [hK] at e1; cases e1
      · rw [hF, hS] at e1; cases e1
      · exact (LedAll.not (LedAll.ext hLd G.ext) e1).elim
    · exact he
end Go.Proofs.YtocphdikppeijaaGreat
