/- The house: fills in a row, of which pieces are taken; buyers and sellers are settled. -/
import Derived.Test.YtgofjheoebabeaaGreatDoorHn36
import Derived.Deep.RegionHeld3
import Derived.Deep.RegionHeld
namespace Go.Proofs.YtgofjheoebabeaaGreatDoor
open Go.RowKit
set_option linter.unusedSimpArgs false
set_option linter.unusedVariables false
variable {p pl bl g : Nat} {l : Ks} {mV sV : Value} {now : Int}

/-- Fills in a row, from some place on. -/
def Fw (w : World) (base : Nat) (v : Value) (l : List Cal.Fi) : Prop :=
  ∃ pp cap, v = .slice pp l.length cap ∧ l.length ≤ cap ∧ (l = [] ∨ ∃ q off cur, pp = some ⟨q, off, none⟩ ∧ base ≤ q ∧ Blk w q cur 163 ∧ ∀ (i : Nat) f, l[i]? = some f → ∀ (j : Nat) u, (Cal.fC f)[j]? = some u → cur[off + i * 3 + j]? = some u)
theorem Fw.chg {D : Nat → Prop} {w w' : World} {base : Nat} {v : Value} {l : List Cal.Fi} (h : Fw w base v l) (c : Chg D w w') (hn : l ≠ [] → ∀ k, v.ownBlock = some k → ¬ D k) : Fw w' base v l := by
  obtain ⟨pp, cap, rfl, hc, hl | ⟨q, off, cur, rfl, hb, X, hf⟩⟩ := h
  · exact ⟨pp, cap, rfl, hc, Or.inl hl⟩
  · by_cases he : l = []
    · exact ⟨_, cap, rfl, hc, Or.inl he⟩
    · exact ⟨_, cap, rfl, hc, Or.inr ⟨q, off, cur, rfl, hb, X.chg c (hn he q rfl), hf⟩⟩
theorem Fw.of_own {w : World} {base : Nat} {v : Value} {l : List Cal.Fi} (h : w.ownsRow base 163 3 v l.length (Cal.fiL l)) : Fw w base v l := by
  obtain ⟨h1, ⟨rfl, h2⟩ | ⟨q, cap, cur, rfl, hb, hh, hc, hm, hs, ht⟩⟩ := h
  · have : l = [] := List.length_eq_zero_iff.1 h2
    subst this
    exact ⟨none, 0, rfl, Nat.le_refl _, Or.inl rfl⟩
  · refine ⟨_, cap, rfl, hc, Or.inr ⟨q, 0, cur, rfl, hb, hh, fun i f hf j u hu => ?_⟩⟩
    have := Cal.fiL_get l i j f u hf hu
    rw [← ht] at this
    have h3 := List.getElem?_eq_some_iff.1 this
    obtain ⟨h4, h5⟩ := h3
    rw [List.getElem_take] at h5
    rw [Nat.zero_add, ← h5]
    simp only [List.length_take] at h4
    have h6 : i * 3 + j < cur.size := by
      have := h4
      simp at this
      omega
    simp [h6]
def lessF (l : List Cal.Fi) (n : Int) : List Cal.Fi :=
  match l with
  | [] => []
  | f :: r => if f.2.2 - n = 0 then r else (f.1, f.2.1, f.2.2 - n) :: r

set_option maxRecDepth 100000 in
set_option maxHeartbeats 1000000 in
theorem less_hs (w : World) {base : Nat} {v : Value} {f : Cal.Fi} {r : List Cal.Fi} (h : Fw w base v (f :: r)) (n : Int) (hr : r.length ≤ 1000000) (h0 : 0 ≤ f.2.2 - n) (h1 : f.2.2 - n ≤ 1099511627776) :
    Calls Tryz.prog 136 #[v, .int .i64 n] w fun e w' => ∃ v', e = .returned v' ∧ Fw w' base v' (lessF (f :: r) n) ∧ Chg (fun k => v.ownBlock = some k) w w' ∧ ∀ k, v'.ownBlock = some k → v.ownBlock = some k := by
  obtain ⟨pp, cap, rfl, hc, hl | ⟨q, off, cur, rfl, hb, X, hf⟩⟩ := h
  · cases hl
  have e2 : cur[off + 2]? = some (.int .i64 f.2.2) := by have := hf 0 f rfl 2 _ rfl; simpa using this
  have d2 : w.cell? ⟨q, off + 2, none⟩ = some (.int .i64 f.2.2) := X.cell e2
  have fr : w.frozen? ⟨q, off + 2, none⟩ = false := X.frozen
  obtain ⟨W1, hW1, X1, C1⟩ : ∃ W1, w.setCell ⟨q, off + 2, none⟩ (.int .i64 (f.2.2 - n)) = W1 ∧ Blk W1 q (cur.setIfInBounds (off + 2) (.int .i64 (f.2.2 - n))) 163 ∧ Chg (fun k => (Value.slice (some ⟨q, off, none⟩) (r.length + 1) cap).ownBlock = some k) w W1 :=
    ⟨_, rfl, X.set _ _, ⟨rfl, rfl, rfl, by simp [World.setCell], fun k hk hn => Below.heap_setCell _ _ _ _ (fun e => hn (by simp [Value.ownBlock]; exact e.symm))⟩⟩
  have hsz : off + 2 < cur.size := (Array.getElem?_eq_some_iff.1 e2).1
  have g2 : (cur.setIfInBounds (off + 2) (.int .i64 (f.2.2 - n)))[off + 2]? = some (.int .i64 (f.2.2 - n)) := by simp [hsz]
  have c2 : W1.cell? ⟨q, off + 2, none⟩ = some (.int .i64 (f.2.2 - n)) := X1.cell g2
  have hother : ∀ j, j ≠ off + 2 → (cur.setIfInBounds (off + 2) (.int .i64 (f.2.2 - n)))[j]? = cur[j]? := fun j hj => by
    rw [Array.getElem?_setIfInBounds, if_neg (fun e => hj e.symm)]
  have HF : Hid _ := hf
  have HO : Hid _ := hother
  have HX1 : Hid _ := X1
  have HC1 : Hid _ := C1
  have HG : Hid _ := g2
  have hcap : r.length + 1 ≤ cap := hc
  have hlen : (f :: r).length = r.length + 1 := rfl
  rw [hlen]
  clear hf hother X1 C1 X e2 g2 hsz hc
  obtain ⟨am, ham⟩ : ∃ am, f.2.2 = am := ⟨_, rfl⟩
  have HAM : Hid _ := ham
  rw [ham] at d2 hW1 c2 h0 h1
  clear ham hlen
  by_cases hz : am - n = 0
  · have hd : (am - n == 0) = true := by simpa using hz
    have HZ : Hid _ := hz
    clear hz
    have hE : lessF (f :: r) n = r := by
      show (if f.2.2 - n = 0 then r else _) = r
      rw [HAM.out, if_pos HZ.out]
    have HN : Hid (∀ (i : Nat) f', r[i]? = some f' → ∀ (j : Nat) u, (Cal.fC f')[j]? = some u → (cur.setIfInBounds (off + 2) (.int .i64 (am - n)))[off + 3 + i * 3 + j]? = some u) := fun i f' hf' j u hu => by
      have h1 := HF.out (i + 1) f' (by simpa using hf') j u hu
      have h2 := HO.out (off + 3 + i * 3 + j) (by omega)
      rw [HAM.out] at h2
      rw [h2]
      have e : off + 3 + i * 3 + j = off + (i + 1) * 3 + j := by omega
      rw [e]; exact h1
    have HX2 : Hid (Blk W1 q (cur.setIfInBounds (off + 2) (.int .i64 (am - n))) 163) := by have := HX1.out; rw [HAM.out] at this; exact this
    rw [hE]
    clear hE HAM HF HO HG HX1
    by_cases hcc : cap = 1
    · have hr0 : r = [] := List.length_eq_zero_iff.1 (by omega)
      have hcc' : (cap : Int) = 1 := by omega
      subst hcc hr0
      go_enter Tryz.func136, Tryz.ntmps136
      go_wp2
      go_ret
      exact ⟨_, rfl, ⟨_, 0, rfl, Nat.le_refl _, Or.inl rfl⟩, HC1.out, fun k hk => hk⟩
    · have hcc' : ¬ (cap : Int) = 1 := by omega
      go_enter Tryz.func136, Tryz.ntmps136
      go_wp2
      go_ret
      exact ⟨_, rfl, ⟨_, cap - 1, rfl, by omega, Or.inr ⟨q, off + 3, _, rfl, hb, HX2.out, HN.out⟩⟩, HC1.out, fun k hk => hk⟩
  · have hd : (am - n == 0) = false := by simpa using hz
    have HZ : Hid _ := hz
    clear hz
    have hE : lessF (f :: r) n = (f.1, f.2.1, am - n) :: r := by
      show (if f.2.2 - n = 0 then r else (f.1, f.2.1, f.2.2 - n) :: r) = _
      rw [HAM.out, if_neg HZ.out]
    have HN : Hid (∀ (i : Nat) f', ((f.1, f.2.1, am - n) :: r : List Cal.Fi)[i]? = some f' → ∀ (j : Nat) u, (Cal.fC f')[j]? = some u → (cur.setIfInBounds (off + 2) (.int .i64 (am - n)))[off + i * 3 + j]? = some u) := fun i f' hf' j u hu => by
      by_cases hj : off + i * 3 + j = off + 2
      · have hjl : j < 3 := by
          have := (List.getElem?_eq_some_iff.1 hu).1
          simpa [Cal.fC] using this
        have hi0 : i = 0 := by omega
        have hj2 : j = 2 := by omega
        subst hi0 hj2
        simp at hf'
        subst hf'
        have hg := HG.out
        rw [HAM.out] at hg
        rw [show off + 0 * 3 + 2 = off + 2 by omega, hg]
        simpa [Cal.fC] using hu
      · have h2 := HO.out (off + i * 3 + j) hj
        rw [HAM.out] at h2
        rw [h2]
        cases i with
        | zero =>
          simp at hf'
          subst hf'
          have h1 := HF.out 0 f rfl j u
          have hjl : j < 3 := by
            have := (List.getElem?_eq_some_iff.1 hu).1
            simpa [Cal.fC] using this
          have : j = 0 ∨ j = 1 := by omega
          rcases this with rfl | rfl
          · exact h1 (by simpa [Cal.fC] using hu)
          · exact h1 (by simpa [Cal.fC] using hu)
        | succ i => exact HF.out (i + 1) f' (by simpa using hf') j u hu
    have HX2 : Hid (Blk W1 q (cur.setIfInBounds (off + 2) (.int .i64 (am - n))) 163) := by have := HX1.out; rw [HAM.out] at this; exact this
    rw [hE]
    clear hE HAM HF HO HG HX1
    go_enter Tryz.func136, Tryz.ntmps136
    go_wp2
    go_ret
    exact ⟨_, rfl, ⟨_, cap, rfl, hcap, Or.inr ⟨q, off, _, rfl, hb, HX2.out, HN.out⟩⟩, HC1.out, fun k hk => hk⟩
end Go.Proofs.YtgofjheoebabeaaGreatDoor
