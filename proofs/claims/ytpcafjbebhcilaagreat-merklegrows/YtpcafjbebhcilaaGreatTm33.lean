/- Proofs that are made lead to the root, and show the key. No walk here. -/
import Derived.Test.YtpcafjbebhcilaaGreatTm32
namespace Go.Proofs.YtpcafjbebhcilaaGreat
open Go.RowKit
set_option linter.unusedSimpArgs false
set_option linter.unusedVariables false
variable {p b x y : Nat} {S : List (Int × ByteArray)}

theorem hf_half {n k : Nat} (h : 2 ≤ n) (hk : n ≤ 2 ^ k) : 1 ≤ k ∧ hf n ≤ 2 ^ (k - 1) ∧ n - hf n ≤ 2 ^ (k - 1) := by
  have h0 : n - 1 ≠ 0 := by omega
  have h1 : Nat.log2 (n - 1) < k := (Nat.log2_lt h0).2 (by omega)
  have h2 : n - 1 < 2 ^ (Nat.log2 (n - 1) + 1) := Nat.lt_log2_self
  have h3 : 2 ^ Nat.log2 (n - 1) ≤ 2 ^ (k - 1) := Nat.pow_le_pow_right (by omega) (by omega)
  rw [Nat.pow_succ] at h2
  unfold hf
  exact ⟨by omega, h3, by omega⟩
theorem Hgt.log {i n h : Nat} (k : Hgt i n h) : ∀ c, n ≤ 2 ^ c → h ≤ c := by
  induction k using Hgt.ind with
  | one => intro c _; omega
  | left i n h hn hi _ ih => intro c hc; obtain ⟨h1, h2, h3⟩ := hf_half hn hc; have := ih (c - 1) h2; omega
  | right i n h hn hi _ ih => intro c hc; obtain ⟨h1, h2, h3⟩ := hf_half hn hc; have := ih (c - 1) h3; omega
theorem Sides.small {T : List ByteArray} {l : List ByteArray} {i : Nat} {ss : List ByteArray} (h : Sides T l i ss) : (∀ x ∈ l, x.size ≤ 32) → ∀ s ∈ ss, s.size ≤ 32 := by
  induction h using Sides.ind with
  | one => intro _ s hs; cases hs
  | left l i ss b h hi _ hb ih =>
    intro hz s hs
    rcases List.mem_append.1 hs with hs | hs
    · exact ih (fun x hx => hz x (List.mem_of_mem_take hx)) s hs
    · simp only [List.mem_singleton] at hs; subst hs; exact hb.small (fun x hx => hz x (List.mem_of_mem_drop hx))
  | right l i ss a h hi _ ha ih =>
    intro hz s hs
    rcases List.mem_append.1 hs with hs | hs
    · exact ih (fun x hx => hz x (List.mem_of_mem_drop hx)) s hs
    · simp only [List.mem_singleton] at hs; subst hs; exact ha.small (fun x hx => hz x (List.mem_of_mem_take hx))
theorem PathOk.led {T : List ByteArray} {l : List Rc} {ls : List ByteArray} {i : Nat} {t : Pt} {d : ByteArray} (hp : PathOk T l ls i t) (hl : Lvs T l ls) (ht : Top T ls d) (hr : rootT l.length d ∈ T) : Led T l.length t (dig T (rootT l.length d)) := by
  obtain ⟨hidx, m, hm, hk, hd, hs⟩ := hp
  have hc := hs.climb (hl.at hm) ht
  rw [hl.len] at hc
  have hmm : m ∈ l := List.mem_of_getElem? hm
  have e : (⟨t.key, t.dat⟩ : Rc) = m := by rw [hk, hd]
  refine ⟨by rw [e]; exact hl.2 m hmm, d, ?_, hr, rfl⟩
  rw [e, hidx]
  exact hc
theorem PathOk.ok {T : List ByteArray} {l : List Rc} {ls : List ByteArray} {i : Nat} {t : Pt} (hp : PathOk T l ls i t) (hl : Lvs T l ls) (hn : l.length ≤ 4096) (hz : ∀ m ∈ l, m.key.size ≤ 64 ∧ m.dat.size ≤ 4096) : ptOk t = true ∧ ptFits l.length t = true := by
  obtain ⟨hidx, m, hm, hk, hd, hs⟩ := hp
  have hmm : m ∈ l := List.mem_of_getElem? hm
  have hi : i < l.length := (List.getElem?_eq_some_iff.1 hm).1
  have hg := hs.hgt
  rw [hl.len] at hg
  have h13 := hg.log 12 (by omega)
  have hsm := hs.small hl.small
  refine ⟨?_, ?_⟩
  · unfold ptOk
    rw [hidx, hk, hd, decide_eq_true (by omega), decide_eq_true (hz m hmm).1, decide_eq_true (hz m hmm).2, decide_eq_true (by omega)]
    simp only [Bool.true_and]
    refine List.all_eq_true.2 (fun s h => ?_)
    have := hsm s h
    simp only [sdOk, decide_eq_true_eq]
    exact this
  · unfold ptFits
    rw [hidx, decide_eq_true (by omega)]
    have e : t.sides.length = hgt i l.length := hg.same (hgt_is hi)
    simp [e]
theorem PathsOk.each {T : List ByteArray} {l : List Rc} {ls : List ByteArray} {key : ByteArray} {r : Nat} {ts : List Pt} (h : PathsOk T l ls key r ts) : ∀ t ∈ ts, ∃ i, PathOk T l ls i t := by
  intro t ht
  cases hh : hasAt l r key
  · obtain ⟨A, B, rfl, hA, hB⟩ := h.2 hh
    rcases List.mem_append.1 ht with ht | ht
    · by_cases hr : r = 0
      · rw [hA.1 hr] at ht; cases ht
      · obtain ⟨u, e, hu⟩ := hA.2 (by omega)
        rw [e, List.mem_singleton] at ht
        subst ht
        exact ⟨_, hu⟩
    · by_cases hr : l.length ≤ r
      · rw [hB.1 hr] at ht; cases ht
      · obtain ⟨u, e, hu⟩ := hB.2 (by omega)
        rw [e, List.mem_singleton] at ht
        subst ht
        exact ⟨_, hu⟩
  · obtain ⟨u, e, hu⟩ := h.1 hh
    rw [e, List.mem_singleton] at ht
    subst ht
    exact ⟨_, hu⟩
theorem PathsOk.two {T : List ByteArray} {l : List Rc} {ls : List ByteArray} {key : ByteArray} {r : Nat} {ts : List Pt} (h : PathsOk T l ls key r ts) : ts.length ≤ 2 := by
  cases hh : hasAt l r key
  · obtain ⟨A, B, rfl, hA, hB⟩ := h.2 hh
    have hA1 : A.length ≤ 1 := by
      by_cases hr : r = 0
      · rw [hA.1 hr]; simp
      · obtain ⟨u, e, _⟩ := hA.2 (by omega); rw [e]; simp
    have hB1 : B.length ≤ 1 := by
      by_cases hr : l.length ≤ r
      · rw [hB.1 hr]; simp
      · obtain ⟨u, e, _⟩ := hB.2 (by omega); rw [e]; simp
    rw [List.length_append]; omega
  · obtain ⟨u, e, _⟩ := h.1 hh
    rw [e]; simp
theorem PathsOk.fits {T : List ByteArray} {l : List Rc} {ls : List ByteArray} {key : ByteArray} {r : Nat} {ts : List Pt} (h : PathsOk T l ls key r ts) (hl : Lvs T l ls) (hn : l.length ≤ 4096) (hz : ∀ m ∈ l, m.key.size ≤ 64 ∧ m.dat.size ≤ 4096) : pfFits ⟨l.length, ts⟩ = true := by
  unfold pfFits pfOk
  have h2 := h.two
  show (decide (0 ≤ (l.length : Int) ∧ (l.length : Int) ≤ 4096) && (decide (ts.length ≤ 2) && ts.all ptOk) && ts.all (ptFits l.length)) = true
  rw [decide_eq_true (by omega), decide_eq_true h2]
  simp only [Bool.true_and, Bool.and_eq_true]
  refine ⟨List.all_eq_true.2 (fun t ht => ?_), List.all_eq_true.2 (fun t ht => ?_)⟩
  · obtain ⟨i, hi⟩ := h.each t ht; exact (hi.ok hl hn hz).1
  · obtain ⟨i, hi⟩ := h.each t ht; exact (hi.ok hl hn hz).2
theorem PathsOk.led {T : List ByteArray} {l : List Rc} {ls : List ByteArray} {key : ByteArray} {r : Nat} {ts : List Pt} {d : ByteArray} (h : PathsOk T l ls key r ts) (hl : Lvs T l ls) (hr : RootOf T l d) : LedAll T ⟨l.length, ts⟩ d := by
  obtain ⟨ls', t, k1, k2, k3, rfl⟩ := hr
  obtain rfl := hl.same k1
  refine ⟨fun h0 => ?_, fun u hu => ?_⟩
  · have h0 : ts = [] := h0
    subst h0
    have hlen : l.length = 0 := by
      cases hh : hasAt l r key
      · obtain ⟨A, B, e, hA, hB⟩ := h.2 hh
        obtain ⟨rfl, rfl⟩ := List.append_eq_nil_iff.1 e.symm
        have r0 : r = 0 := by
          by_cases hr : r = 0
          · exact hr
          · obtain ⟨u, e, _⟩ := hA.2 (by omega); cases e
        by_cases hr : l.length ≤ r
        · omega
        · obtain ⟨u, e, _⟩ := hB.2 (by omega); cases e
      · obtain ⟨u, e, _⟩ := h.1 hh; cases e
    have e2 : ls = [] := List.length_eq_zero_iff.1 (by rw [hl.len, hlen])
    subst e2
    have := k2.nil_inv
    subst this
    rw [hlen] at k3 ⊢
    exact ⟨k3, rfl⟩
  · obtain ⟨i, hi⟩ := h.each u hu
    exact hi.led hl k2 k3
theorem lsB_total {a c : ByteArray} (h : lsB a c = false) (hn : a ≠ c) : lsB c a = true := by
  have h1 := lsB_flip c a
  rw [h, Bool.not_false] at h1
  have h2 : (c.toList == a.toList) = false := by rw [strEq]; exact decide_eq_false (fun e => hn e.symm)
  rw [h2, Bool.or_false] at h1
  exact h1
theorem PathsOk.shows {T : List ByteArray} {l : List Rc} {ls : List ByteArray} {key : ByteArray} {r : Nat} {ts : List Pt} (h : PathsOk T l ls key r ts) (hs : Spot l key r) : showsB ⟨l.length, ts⟩ key = true := by
  cases hh : hasAt l r key
  · obtain ⟨A, B, rfl, hA, hB⟩ := h.2 hh
    have hB2 : r < l.length → ∃ u, B = [u] ∧ u.idx = r ∧ lsB key u.key = true := fun hr => by
      obtain ⟨u, e, hidx, m, hm, hk, _⟩ := hB.2 hr
      obtain ⟨hl2, e2⟩ := List.getElem?_eq_some_iff.1 hm
      refine ⟨u, e, hidx, ?_⟩
      have h1 := hs.hi r hr (Nat.le_refl _)
      rw [e2] at h1
      have h2 : m.key ≠ key := by unfold hasAt at hh; rw [hm] at hh; simpa using hh
      rw [hk]; exact lsB_total h1 h2
    have hA2 : 0 < r → ∃ t, A = [t] ∧ t.idx = (r : Int) - 1 ∧ lsB t.key key = true := fun hr => by
      obtain ⟨t, e, hidx, m, hm, hk, _⟩ := hA.2 hr
      obtain ⟨hl2, e2⟩ := List.getElem?_eq_some_iff.1 hm
      refine ⟨t, e, by rw [hidx]; omega, ?_⟩
      have h1 := hs.lo (r - 1) hl2 (by omega)
      rw [e2] at h1
      rw [hk]; exact h1
    have hle := hs.le
    by_cases hr0 : r = 0
    · rw [hA.1 hr0, List.nil_append]
      by_cases hrl : l.length ≤ r
      · rw [hB.1 hrl]
        show decide ((l.length : Int) = 0) = true
        exact decide_eq_true (by omega)
      · obtain ⟨u, e, h1, h2⟩ := hB2 (by omega)
        rw [e]
        show (decide (u.key = key) || (decide (u.idx = 0) && lsB key u.key) || _) = true
        rw [h2, h1, decide_eq_true (p := ((r : Int) = 0)) (by omega)]
        simp
    · obtain ⟨t, e1, h1, h2⟩ := hA2 (by omega)
      rw [e1]
      by_cases hrl : l.length ≤ r
      · rw [hB.1 hrl]
        show (decide (t.key = key) || _ || (decide (t.idx = (l.length : Int) - 1) && lsB t.key key)) = true
        rw [h2, h1, decide_eq_true (p := ((r : Int) - 1 = (l.length : Int) - 1)) (by omega)]
        simp
      · obtain ⟨u, e, h3, h4⟩ := hB2 (by omega)
        rw [e]
        show (decide (u.idx = t.idx + 1) && lsB t.key key && lsB key u.key) = true
        rw [h2, h4, decide_eq_true (by rw [h3, h1]; omega)]
        rfl
  · obtain ⟨t, rfl, _, m, hm, hk, _⟩ := h.1 hh
    unfold hasAt at hh
    rw [hm] at hh
    have hh : decide (m.key = key) = true := hh
    show (decide (t.key = key) || _ || _) = true
    rw [hk, hh]
    rfl
end Go.Proofs.YtpcafjbebhcilaaGreat
