/- Whom a call changes, and what records tell. -/
import Derived.Test.YtmcafgmjfgfaeaaDoorLw40
import Derived.Test.YtmcafgmjfgfaeaaDoorLw04
import Derived.Test.YtmcafgmjfgfaeaaDoorLw23
import Derived.Test.YtmcafgmjfgfaeaaDoorLw22
import Derived.Test.YtmcafgmjfgfaeaaDoorLw39
namespace Go.Proofs.YtmcafgmjfgfaeaaDoor
open Go.RowKit
set_option linter.unusedSimpArgs false
set_option linter.unusedVariables false
variable {g : Nat} {l : List Kt}

theorem upd_other {i j f : Nat} {v : Int} (h : i ≠ j) : kAt (upd l j f v) i = kAt l i := by
  unfold upd kAt
  rw [List.getElem?_set_ne (fun e => h e.symm)]
theorem over3_other {i j k a h : Nat} {n : Int} (h1 : i ≠ j) (h2 : i ≠ k) : kAt (over3 l j k a h n) i = kAt l i := by
  unfold over3 over2 over1
  rw [upd_other h2, upd_other h1, upd_other h1]
theorem markL_other {i j : Nat} {s : Int} {t : ByteArray} (h : i ≠ j) : kAt (markL l j s t) i = kAt l i := by
  unfold markL kAt
  rw [List.getElem?_set_ne (fun e => h e.symm)]
theorem if_two {c : Prop} [Decidable c] {e : Int} {l l' : List Kt} {i : Nat} (h : kAt l' i = kAt l i) : kAt (if c then (e, l) else ((0 : Int), l')).2 i = kAt l i := by
  split
  · rfl
  · exact h
/-- A call changes nobody's account but those that it names. -/
theorem act_other (a : Ac) (i : Nat) (h1 : (i : Int) ≠ a.who) (h2 : (i : Int) ≠ a.dst) : kAt (act g l a).2 i = kAt l i := by
  by_cases h0 : (act g l a).1 = 0
  · rcases kinds a with k | k | k | k | k | k | k | k | k | k | k
    all_goals first | rw [act_eq0 k] at h0 ⊢ | rw [act_eq1 k] at h0 ⊢ | rw [act_eq2 k] at h0 ⊢ | rw [act_eq3 k] at h0 ⊢ | rw [act_eq4 k] at h0 ⊢ | rw [act_eq5 k] at h0 ⊢ | rw [act_eq6 k] at h0 ⊢ | rw [act_eq7 k] at h0 ⊢ | rw [act_eq8 k] at h0 ⊢ | rw [act_eq9 k] at h0 ⊢ | rw [act_eq10 k] at h0 ⊢
    · obtain ⟨he, e⟩ := gate_ok h0
      obtain ⟨z, hw, hi, _, _⟩ := refE_one he
      rw [e]; exact if_two (upd_other (by omega))
    · obtain ⟨he, e⟩ := gate_ok h0
      obtain ⟨z, hw, hi, _, _⟩ := refE_one he
      rw [e]; exact if_two (upd_other (by omega))
    · obtain ⟨he, e⟩ := gate_ok h0
      obtain ⟨z, hw, hi, _, _⟩ := refE_one (refG_ok he).1
      rw [e]; exact if_two (upd_other (by omega))
    · obtain ⟨he, e⟩ := gate_ok h0
      obtain ⟨z, hw, hi, _, _⟩ := refE_one (refG_ok he).1
      rw [e]; exact if_two (upd_other (by omega))
    · obtain ⟨he, e⟩ := gate_ok h0
      obtain ⟨z, hw, hi, _, _⟩ := refE_one he
      rw [e]; exact if_two (upd_other (by omega))
    · obtain ⟨he, e⟩ := gate_ok h0
      obtain ⟨z, hw, hi, _, _⟩ := refE_one he
      rw [e]; exact if_two (upd_other (by omega))
    · obtain ⟨he, e⟩ := gate_ok h0
      obtain ⟨z, hw, hi, _, _⟩ := refE_one (refG_ok he).1
      rw [e]; exact if_two (upd_other (by omega))
    · obtain ⟨he, e⟩ := gate_ok h0
      obtain ⟨z, hw, hi, _, _⟩ := refE_one (refG_ok he).1
      rw [e]; exact if_two (upd_other (by omega))
    · obtain ⟨he, e⟩ := gate_ok h0
      obtain ⟨z, y, hw, hw2, hi, hj, _, _⟩ := refE_two he
      rw [e]; exact if_two (over3_other (by omega) (by omega))
    · obtain ⟨he, e⟩ := gate_ok h0
      obtain ⟨z, y, hw, hw2, hi, hj, _, _⟩ := refE_two (refG_ok he).1
      rw [e]; exact if_two (over3_other (by omega) (by omega))
    · obtain ⟨z, hw, hi, _, _, _, _, e⟩ := markR_ok h0
      rw [e]; exact markL_other (by omega)
  · rw [act_not a h0]

theorem valB_len (k : Kt) (hf : k.fits) (hg : g ≤ 4) : (valB k g).length ≤ 1000 := by
  have h1 := encs_len [k.n 10, k.n 0, k.n 1]
  have h2 := encs_len ((List.range g).map fun i => k.n (2 + i))
  have h3 := encs_len ((List.range g).map fun i => k.n (6 + i))
  have h4 := enc_le k.reply.size
  have h5 := hf.rep
  have h6 : k.reply.data.toList.length = k.reply.size := by simp
  rw [List.length_map, List.length_range] at h2 h3
  unfold valB
  simp only [List.length_append, h6]
  simp only [List.length_cons, List.length_nil] at h1
  omega
theorem recs_small (H : Inv g l) : ∀ m ∈ recs g l, m.key.size ≤ maxLen ∧ m.dat.size ≤ maxLen := by
  intro m hm
  unfold recs at hm
  obtain ⟨i, hi, rfl⟩ := List.mem_map.1 hm
  have hi' := List.mem_range.1 hi
  have h1 := valB_len (g := g) (kAt l i) (H.fits hi') H.g4
  refine ⟨?_, ?_⟩
  · show (keyB i).size ≤ maxLen
    rw [show (keyB i).size = 7 from rfl]; unfold maxLen; omega
  · show (ByteArray.mk (valB (kAt l i) g).toArray).size ≤ maxLen
    rw [show (ByteArray.mk (valB (kAt l i) g).toArray).size = (valB (kAt l i) g).length from List.size_toArray]; unfold maxLen; omega
theorem recs_len (g : Nat) (l : List Kt) : (recs g l).length = l.length := by simp [recs]
theorem recs_at {i : Nat} (h : i < (recs g l).length) : (recs g l)[i] = recOf g i (kAt l i) := by simp [recs]
/-- Rows that lie above what is stored to. -/
theorem own_offL {w w' : World} {base b : Nat} {e : TypeId} {sz : Nat} {v : Value} {n : Nat} {xs : List Value} (ho : w.ownsRow base e sz v n xs) (h : Off b w w') (hb : b < base) : w'.ownsRow base e sz v n xs :=
  ho.kept (row := some b) ⟨h.os, h.tape, h.output, h.size, fun k hk hne => h.block k hk (fun e => hne (by rw [e]))⟩ (by
    cases hv : v.ownBlock with
    | none => exact Or.inl rfl
    | some q => exact Or.inr (fun e => by have := (ho.lt q hv).1; injection e with e; omega))
/-- Records of one's own, as cells. -/
theorem rcs_recs {w : World} {base : Nat} {v : Value} (H : Inv g l) (ho : w.ownsRow base 71 2 v l.length (rcCells (recs g l))) : Rcs w v (recs g l) :=
  rcs_of_own (by rw [recs_len]; exact ho) (recs_small H)
end Go.Proofs.YtmcafgmjfgfaeaaDoor

namespace Go.Proofs.YtmcafgmjfgfaeaaDoor
open Go.RowKit
set_option linter.unusedSimpArgs false
set_option linter.unusedVariables false

/-- One number more: it, where the next begins, whether all was right so far. -/
def nxt (s : ByteArray) (st : Nat × Bool) : Int × Nat × Bool :=
  match rdInt s st.1 with
  | .ok (m, nx) => ((m : Int), nx, st.2 && decide ((m : Int) ≤ 1099511627776))
  | .error _ => (0, 0, false)
def nxs (s : ByteArray) : Nat → (Nat × Bool) × List Int
  | 0 => ((0, true), [])
  | j + 1 => (((nxt s (nxs s j).1).2.1, (nxt s (nxs s j).1).2.2), (nxs s j).2 ++ [(nxt s (nxs s j).1).1])
theorem nxt_le (s : ByteArray) (st : Nat × Bool) : (nxt s st).2.1 ≤ s.size ∧ 0 ≤ (nxt s st).1 ∧ (nxt s st).1 ≤ 9007199254740992 := by
  unfold nxt
  cases h : rdInt s st.1 with
  | error e => exact ⟨Nat.zero_le _, by show (0 : Int) ≤ 0; decide, by show (0 : Int) ≤ 9007199254740992; decide⟩
  | ok q =>
    obtain ⟨m, nx⟩ := q
    obtain ⟨h1, h2, h3⟩ := rdInt_le h
    exact ⟨h2, by show (0 : Int) ≤ (m : Int); omega, by show (m : Int) ≤ _; omega⟩
theorem nxs_at (s : ByteArray) : ∀ j, (nxs s j).1.1 ≤ s.size
  | 0 => Nat.zero_le _
  | j + 1 => (nxt_le s _).1
theorem nxs_len (s : ByteArray) : ∀ j, (nxs s j).2.length = j
  | 0 => rfl
  | j + 1 => by show ((nxs s j).2 ++ _).length = _; rw [List.length_append, nxs_len s j]; rfl
theorem nxs_bd (s : ByteArray) : ∀ j, ∀ x ∈ (nxs s j).2, 0 ≤ x ∧ x ≤ 9007199254740992
  | 0, x, h => by cases h
  | j + 1, x, h => by
    rcases List.mem_append.1 h with h | h
    · exact nxs_bd s j x h
    · rw [List.mem_singleton.1 h]; exact (nxt_le s _).2
theorem encs_takeK {ms : List Int} {j : Nat} (h : j < ms.length) : encs (ms.take (j + 1)) = encs (ms.take j) ++ enc (ms[j]).toNat := by
  rw [List.take_succ_eq_append_getElem h]
  unfold encs
  rw [List.flatMap_append]
  simp only [List.flatMap_cons, List.flatMap_nil, List.append_nil]
theorem encs_split {ms : List Int} {j : Nat} (h : j < ms.length) : encs ms = encs (ms.take j) ++ (enc (ms[j]).toNat ++ encs (ms.drop (j + 1))) := by
  have e : ms = ms.take j ++ (ms[j] :: ms.drop (j + 1)) := by rw [List.getElem_cons_drop h, List.take_append_drop]
  have e2 : encs ms = encs (ms.take j ++ (ms[j] :: ms.drop (j + 1))) := congrArg encs e
  rw [e2]
  unfold encs
  rw [List.flatMap_append, List.flatMap_cons]
/-- Numbers that were laid are read again. -/
theorem nxs_enc {s : ByteArray} {ms : List Int} {post : List UInt8} (hs : s.data.toList = encs ms ++ post) (hm : ∀ x ∈ ms, 0 ≤ x ∧ x ≤ 1099511627776) : ∀ j, j ≤ ms.length → nxs s j = (((encs (ms.take j)).length, true), ms.take j)
  | 0, _ => rfl
  | j + 1, hj => by
    have hlt : j < ms.length := by omega
    have hx := hm _ (List.getElem_mem hlt)
    have hd : s.data.toList.drop (encs (ms.take j)).length = enc (ms[j]).toNat ++ (encs (ms.drop (j + 1)) ++ post) := by
      rw [hs, encs_split hlt, List.append_assoc, List.drop_left, List.append_assoc]
    have hr : rdInt s (encs (ms.take j)).length = .ok ((ms[j]).toNat, (encs (ms.take j)).length + (enc (ms[j]).toNat).length) := by
      rw [rdInt_list, hd, rdP_enc0 _ _ (by omega)]
      rfl
    have hn : nxt s ((encs (ms.take j)).length, true) = (ms[j], (encs (ms.take (j + 1))).length, true) := by
      unfold nxt
      rw [hr]
      have e1 : ((ms[j]).toNat : Int) = ms[j] := Int.toNat_of_nonneg hx.1
      show (((ms[j]).toNat : Int), _, true && decide (((ms[j]).toNat : Int) ≤ 1099511627776)) = _
      rw [e1, decide_eq_true hx.2, encs_takeK hlt, List.length_append]
      rfl
    show (((nxt s (nxs s j).1).2.1, (nxt s (nxs s j).1).2.2), (nxs s j).2 ++ [(nxt s (nxs s j).1).1]) = _
    rw [nxs_enc hs hm j (by omega), hn, List.take_succ_eq_append_getElem hlt]
end Go.Proofs.YtmcafgmjfgfaeaaDoor
