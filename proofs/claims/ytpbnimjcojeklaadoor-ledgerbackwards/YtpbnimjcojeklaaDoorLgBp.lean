/- What was done and undone leaves all as it was. No program is named here. -/
import Derived.Test.YtpbnimjcojeklaaDoorLgS
namespace Go.Proofs.YtpbnimjcojeklaaDoor
open Go.RowKit
set_option linter.unusedSimpArgs false
set_option linter.unusedVariables false
variable {g : Nat} {l : List Kt}
theorem upd_back {i f : Nat} {v u : Int} (hi : i < l.length) (hu : u = (kAt l i).n f) : upd (upd l i f v) i f u = l := by
  subst hu
  unfold upd
  rw [kAt_set _ hi, if_pos rfl, List.set_set]
  have e : ((kAt l i).put f v).put f ((kAt l i).n f) = kAt l i := by
    unfold Kt.put
    have : (fun j => if j = f then (kAt l i).n f else if j = f then v else (kAt l i).n j) = (kAt l i).n := by
      funext j
      by_cases h : j = f
      · simp [h]
      · simp [h]
    simp only [this]
  rw [e, kAt_eq hi]
  exact List.set_getElem_self hi
theorem inout {i a h : Nat} {n : Int} (H : Inv g l) (p : Part a h) (hi : i < l.length) (h0 : (inR l i a n).1 = 0) : outR (inR l i a n).2 i a h n = (0, l) := by
  obtain ⟨_, e⟩ := if_ok (by decide) h0
  rw [show (inR l i a n).2 = _ from e]
  have hh := H.held i hi a h p
  have ea : (kAt (upd l i a ((kAt l i).n a + n)) i).n a = (kAt l i).n a + n := by rw [upd_at _ _ hi, if_pos ⟨rfl, rfl⟩]
  have eh : (kAt (upd l i a ((kAt l i).n a + n)) i).n h = (kAt l i).n h := by rw [upd_at _ _ hi, if_neg (fun e => p.ne p e.2.symm)]
  unfold outR
  rw [ea, eh, if_neg (by omega), upd_back hi (by omega)]
theorem keeploose {i a h : Nat} {n : Int} (H : Inv g l) (p : Part a h) (hi : i < l.length) (hn : 0 ≤ n) (h0 : (keepR l i a h n).1 = 0) : looseR (keepR l i a h n).2 i h n = (0, l) := by
  obtain ⟨_, e⟩ := if_ok (by decide) h0
  rw [show (keepR l i a h n).2 = _ from e]
  have hh := H.held i hi a h p
  have eh : (kAt (upd l i h ((kAt l i).n h + n)) i).n h = (kAt l i).n h + n := by rw [upd_at _ _ hi, if_pos ⟨rfl, rfl⟩]
  unfold looseR
  rw [eh, if_neg (by omega), upd_back hi (by omega)]
theorem inR_len {i a : Nat} {n : Int} : (inR l i a n).2.length = l.length := by unfold inR; split <;> simp [upd_len]
theorem keepR_len {i a h : Nat} {n : Int} : (keepR l i a h n).2.length = l.length := by unfold keepR; split <;> simp [upd_len]
/-- One call, and the one that undoes it. -/
theorem act_back (H : Inv g l) (kd : Int) (who good n : Int) (hk : kd = 0 ∨ kd = 2 ∨ kd = 4 ∨ kd = 6) (h : (act g l ⟨kd, who, 0, good, n, ⟨#[]⟩⟩).1 = 0) : act g (act g l ⟨kd, who, 0, good, n, ⟨#[]⟩⟩).2 ⟨kd + 1, who, 0, good, n, ⟨#[]⟩⟩ = (0, l) := by
  have hg := H.g4
  rcases hk with rfl | rfl | rfl | rfl
  · rw [act_eq0 (a := ⟨0, who, 0, good, n, ⟨#[]⟩⟩) rfl] at h ⊢
    obtain ⟨he, e⟩ := gate_ok h
    rw [e] at h ⊢
    obtain ⟨i, hw, hi, hn1, _⟩ := refE_one he
    have hn1 : 1 ≤ n := hn1
    have hw : who = (i : Int) := hw
    subst hw
    rw [act_eq1 (a := ⟨0 + 1, _, 0, _, n, ⟨#[]⟩⟩) rfl, inR_len, he]
    simp only [Int.toNat_natCast] at h ⊢
    unfold gate
    rw [if_pos rfl]
    exact inout H (Or.inl ⟨rfl, rfl⟩) hi h
  · rw [act_eq2 (a := ⟨2, who, 0, good, n, ⟨#[]⟩⟩) rfl] at h ⊢
    obtain ⟨he, e⟩ := gate_ok h
    rw [e] at h ⊢
    obtain ⟨he1, q, hq, hqg⟩ := refG_ok he
    obtain ⟨i, hw, hi, hn1, _⟩ := refE_one he1
    have hn1 : 1 ≤ n := hn1
    have hw : who = (i : Int) := hw
    have hq : good = (q : Int) := hq
    subst hw hq
    rw [act_eq3 (a := ⟨2 + 1, _, 0, _, n, ⟨#[]⟩⟩) rfl, inR_len, he]
    simp only [Int.toNat_natCast] at h ⊢
    unfold gate
    rw [if_pos rfl]
    exact inout H (partG q (by omega)) hi h
  · rw [act_eq4 (a := ⟨4, who, 0, good, n, ⟨#[]⟩⟩) rfl] at h ⊢
    obtain ⟨he, e⟩ := gate_ok h
    rw [e] at h ⊢
    obtain ⟨i, hw, hi, hn1, _⟩ := refE_one he
    have hn1 : 1 ≤ n := hn1
    have hw : who = (i : Int) := hw
    subst hw
    rw [act_eq5 (a := ⟨4 + 1, _, 0, _, n, ⟨#[]⟩⟩) rfl, keepR_len, he]
    simp only [Int.toNat_natCast] at h ⊢
    unfold gate
    rw [if_pos rfl]
    exact keeploose H (Or.inl ⟨rfl, rfl⟩) hi (by omega) h
  · rw [act_eq6 (a := ⟨6, who, 0, good, n, ⟨#[]⟩⟩) rfl] at h ⊢
    obtain ⟨he, e⟩ := gate_ok h
    rw [e] at h ⊢
    obtain ⟨he1, q, hq, hqg⟩ := refG_ok he
    obtain ⟨i, hw, hi, hn1, _⟩ := refE_one he1
    have hn1 : 1 ≤ n := hn1
    have hw : who = (i : Int) := hw
    have hq : good = (q : Int) := hq
    subst hw hq
    rw [act_eq7 (a := ⟨6 + 1, _, 0, _, n, ⟨#[]⟩⟩) rfl, keepR_len, he]
    simp only [Int.toNat_natCast] at h ⊢
    unfold gate
    rw [if_pos rfl]
    exact keeploose H (partG q (by omega)) hi (by omega) h
end Go.Proofs.YtpbnimjcojeklaaDoor
