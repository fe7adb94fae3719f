/- Whom a call changes, and what records tell. -/
import Derived.Test.YtpbnimjcojeklaaDoorLgR
import Derived.Test.YtpbnimjcojeklaaDoorLgS
namespace Go.Proofs.YtpbnimjcojeklaaDoor
open Go.RowKit
set_option linter.unusedSimpArgs false
set_option linter.unusedVariables false
variable {g : Nat} {l : List Kt}

theorem upd_other {i j f : Nat} {v : Int} (h : i ≠ j) : kAt (upd l j f v) i = kAt l i := by
  unfold upd kAt
  rw [List.getElem?_set_ne (fun e => h e.symm)]
theorem over3_other {i j k a h : Nat} {n : Int} (h1 : i ≠ j) (h2 : i ≠ k) : kAt (over3 l j k a h n) i = kAt l i := by
  unfold over3 over2 over1
  rw [upd_other h2, upd_other h1, upd_other h1]
theorem markL_other {i j : Nat} {s : Int} {t : ByteArray} (h : i ≠ j) : kAt (markL l j s t) i = kAt l i := by
  unfold markL kAt
  rw [List.getElem?_set_ne (fun e => h e.symm)]
theorem if_two {c : Prop} [Decidable c] {e : Int} {l l' : List Kt} {i : Nat} (h : kAt l' i = kAt l i) : kAt (if c then (e, l) else ((0 : Int), l')).2 i = kAt l i := by
  split
  · rfl
  · exact h
/-- A call changes nobody's account but those that it names. -/
theorem act_other (a : Ac) (i : Nat) (h1 : (i : Int) ≠ a.who) (h2 : (i : Int) ≠ a.dst) : kAt (act g l a).2 i = kAt l i := by
  by_cases h0 : (act g l a).1 = 0
  · rcases kinds a with k | k | k | k | k | k | k | k | k | k | k
    all_goals first | rw [act_eq0 k] at h0 ⊢ | rw [act_eq1 k] at h0 ⊢ | rw [act_eq2 k] at h0 ⊢ | rw [act_eq3 k] at h0 ⊢ | rw [act_eq4 k] at h0 ⊢ | rw [act_eq5 k] at h0 ⊢ | rw [act_eq6 k] at h0 ⊢ | rw [act_eq7 k] at h0 ⊢ | rw [act_eq8 k] at h0 ⊢ | rw [act_eq9 k] at h0 ⊢ | rw [act_eq10 k] at h0 ⊢
    · obtain ⟨he, e⟩ := gate_ok h0
      obtain ⟨z, hw, hi, _, _⟩ := refE_one he
      rw [e]; exact if_two (upd_other (by omega))
    · obtain ⟨he, e⟩ := gate_ok h0
      obtain ⟨z, hw, hi, _, _⟩ := refE_one he
      rw [e]; exact if_two (upd_other (by omega))
    · obtain ⟨he, e⟩ := gate_ok h0
      obtain ⟨z, hw, hi, _, _⟩ := refE_one (refG_ok he).1
      rw [e]; exact if_two (upd_other (by omega))
    · obtain ⟨he, e⟩ := gate_ok h0
      obtain ⟨z, hw, hi, _, _⟩ := refE_one (refG_ok he).1
      rw [e]; exact if_two (upd_other (by omega))
    · obtain ⟨he, e⟩ := gate_ok h0
      obtain ⟨z, hw, hi, _, _⟩ := refE_one he
      rw [e]; exact if_two (upd_other (by omega))
    · obtain ⟨he, e⟩ := gate_ok h0
      obtain ⟨z, hw, hi, _, _⟩ := refE_one he
      rw [e]; exact if_two (upd_other (by omega))
    · obtain ⟨he, e⟩ := gate_ok h0
      obtain ⟨z, hw, hi, _, _⟩ := refE_one (refG_ok he).1
      rw [e]; exact if_two (upd_other (by omega))
    · obtain ⟨he, e⟩ := gate_ok h0
      obtain ⟨z, hw, hi, _, _⟩ := refE_one (refG_ok he).1
      rw [e]; exact if_two (upd_other (by omega))
    · obtain ⟨he, e⟩ := gate_ok h0
      obtain ⟨z, y, hw, hw2, hi, hj, _, _⟩ := refE_two he
      rw [e]; exact if_two (over3_other (by omega) (by omega))
    · obtain ⟨he, e⟩ := gate_ok h0
      obtain ⟨z, y, hw, hw2, hi, hj, _, _⟩ := refE_two (refG_ok he).1
      rw [e]; exact if_two (over3_other (by omega) (by omega))
    · obtain ⟨z, hw, hi, _, _, _, _, e⟩ := markR_ok h0
      rw [e]; exact markL_other (by omega)
  · rw [act_not a h0]

theorem valB_len (k : Kt) (hf : k.fits) (hg : g ≤ 4) : (valB k g).length ≤ 1000 := by
  have h1 := encs_len [k.n 10, k.n 0, k.n 1]
  have h2 := encs_len ((List.range g).map fun i => k.n (2 + i))
  have h3 := encs_len ((List.range g).map fun i => k.n (6 + i))
  have h4 := enc_le k.reply.size
  have h5 := hf.rep
  have h6 : k.reply.data.toList.length = k.reply.size := by simp
  rw [List.length_map, List.length_range] at h2 h3
  unfold valB
  simp only [List.length_append, h6]
  simp only [List.length_cons, List.length_nil] at h1
  omega
theorem recs_small (H : Inv g l) : ∀ m ∈ recs g l, m.key.size ≤ maxLen ∧ m.dat.size ≤ maxLen := by
  intro m hm
  unfold recs at hm
  obtain ⟨i, hi, rfl⟩ := List.mem_map.1 hm
  have hi' := List.mem_range.1 hi
  have h1 := valB_len (g := g) (kAt l i) (H.fits hi') H.g4
  refine ⟨?_, ?_⟩
  · show (keyB i).size ≤ maxLen
    rw [show (keyB i).size = 7 from rfl]; unfold maxLen; omega
  · show (ByteArray.mk (valB (kAt l i) g).toArray).size ≤ maxLen
    rw [show (ByteArray.mk (valB (kAt l i) g).toArray).size = (valB (kAt l i) g).length from List.size_toArray]; unfold maxLen; omega
theorem recs_len (g : Nat) (l : List Kt) : (recs g l).length = l.length := by simp [recs]
theorem recs_at {i : Nat} (h : i < (recs g l).length) : (recs g l)[i] = recOf g i (kAt l i) := by simp [recs]
/-- Rows that lie above what is stored to. -/
theorem own_offL {w w' : World} {base b : Nat} {e : TypeId} {sz : Nat} {v : Value} {n : Nat} {xs : List Value} (ho : w.ownsRow base e sz v n xs) (h : Off b w w') (hb : b < base) : w'.ownsRow base e sz v n xs :=
  ho.kept (row := some b) ⟨h.os, h.tape, h.output, h.size, fun k hk hne => h.block k hk (fun e => hne (by rw [e]))⟩ (by
    cases hv : v.ownBlock with
    | none => exact Or.inl rfl
    | some q => exact Or.inr (fun e => by have := (ho.lt q hv).1; injection e with e; omega))
/-- Records of one's own, as cells. -/
theorem rcs_recs {w : World} {base : Nat} {v : Value} (H : Inv g l) (ho : w.ownsRow base 32 2 v l.length (rcCells (recs g l))) : Rcs w v (recs g l) :=
  rcs_of_own (by rw [recs_len]; exact ho) (recs_small H)
end Go.Proofs.YtpbnimjcojeklaaDoor
