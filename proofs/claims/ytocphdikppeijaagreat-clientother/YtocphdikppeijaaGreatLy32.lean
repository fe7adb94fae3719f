/- Proofs that are made lead to the root, and show the key. No walk here. -/
import Derived.Test.YtocphdikppeijaaGreatLy31
import Derived.Test.YtocphdikppeijaaGreatLy17
namespace Go.Proofs.YtocphdikppeijaaGreat
open Go.RowKit
set_option linter.unusedSimpArgs false
set_option linter.unusedVariables false
variable {p b x y : Nat} {S : List (Int × ByteArray)}

theorem hf_half {n k : Nat} (h : 2 ≤ n) (hk : n ≤ 2 ^ k) : 1 ≤ k ∧ hf n ≤ 2 ^ (k - 1) ∧ n - hf n ≤ 2 ^ (k - 1) := by
  have h0 : n - 1 ≠ 0 := by omega
  have h1 : Nat.log2 (n - 1) < k := (Nat.log2_lt h0).2 (by omega)
  have h2 : n - 1 < 2 ^ (Nat.log2 (n - 1) + 1) := Nat.lt_log2_self
  have h3 : 2 ^ Nat.log2 (n - 1) ≤ 2 ^ (k - 1) := Nat.pow_le_pow_right (by omega) (by omega)
  rw [Nat.pow_succ] at h2
  unfold hf
  exact ⟨by omega, h3, by omega⟩
theorem Hgt.log {i n h : Nat} (k : Hgt i n h) : ∀ c, n ≤ 2 ^ c → h ≤ c := by
  induction k using Hgt.ind with
  | one => intro c _; omega
  | left i n h hn hi _ ih => intro c hc; obtain ⟨h1, h2, h3⟩ := hf_half hn hc; have := ih (c - 1) h2; omega
  | right i n h hn hi _ ih => intro c hc; obtain ⟨h1, h2, h3⟩ := hf_half hn hc; have := ih (c - 1) h3; omega
theorem Sides.small {T : List ByteArray} {l : List ByteArray} {i : Nat} {ss : List ByteArray} (h : Sides T l i ss) : (∀ x ∈ l, x.size ≤ 32) → ∀ s ∈ ss, s.size ≤ 32 := by
  induction h using Sides.ind with
  | one => intro _ s hs; cases hs
  | left l i ss b h hi _ hb ih =>
    intro hz s hs
    rcases List.mem_append.1 hs with hs | hs
    · exact ih (fun x hx => hz x (List.mem_of_mem_take hx)) s hs
    · simp only [List.mem_singleton] at hs; subst hs; exact hb.small (fun x hx => hz x (List.mem_of_mem_drop hx))
  | right l i ss a h hi _ ha ih =>
    intro hz s hs
    rcases List.mem_append.1 hs with hs | hs
    · exact ih (fun x hx => hz x (List.mem_of_mem_drop hx)) s hs
    · simp only [List.mem_singleton] at hs; subst hs; exact ha.small (fun x hx => hz x (List.mem_of_mem_take hx))
theorem PathOk.led {T : List ByteArray} {l : List Rc} {ls : List ByteArray} {i : Nat} {t : Pt} {d : ByteArray} (hp : PathOk T l ls i t) (hl : Lvs T l ls) (ht : Top T ls d) (hr : rootT l.length d ∈ T) : Led T l.length t (dig T (rootT l.length d)) := by
  obtain ⟨hidx, m, hm, hk, hd, hs⟩ := hp
  have hc := hs.climb (hl.at hm) ht
  rw [hl.len] at hc
  have hmm : m ∈ l := List.mem_of_getElem? hm
  have e : (⟨t.key, t.dat⟩ : Rc) = m := by rw [hk, hd]
  refine ⟨by rw [e]; exact hl.2 m hmm, d, ?_, hr, rfl⟩
  rw [e, hidx]
  exact hc
theorem PathOk.ok {T : List ByteArray} {l : List Rc} {ls : List ByteArray} {i : Nat} {t : Pt} (hp : PathOk T l ls i t) (hl : Lvs T l ls) (hn : l.length ≤ 4096) (hz : ∀ m ∈ l, m.key.size ≤ 64 ∧ m.dat.size ≤ 4096) : ptOk t = true ∧ ptFits l.length t = true := by
  obtain ⟨hidx, m, hm, hk, hd, hs⟩ := hp
  have hmm : m ∈ l := List.mem_of_getElem? hm
  have hi : i < l.length := (List.getElem?_eq_some_iff.1 hm).1
  have hg := hs.hgt
  rw [hl.len] at hg
  have h13 := hg.log 12 (by omega)
  have hsm := hs.small hl.small
  refine ⟨?_, ?_⟩
  · unfold ptOk
    rw [hidx, hk, hd, decide_eq_true (by omega), decide_eq_true (hz m hmm).1, decide_eq_true (hz m hmm).2, decide_eq_true (by omega)]
    simp only [Bool.true_and]
    refine List.all_eq_true.2 (fun s h => ?_)
    have := hsm s h
    simp only [sdOk, decide_eq_true_eq]
    exact this
  · unfold ptFits
    rw [hidx, decide_eq_true (by omega)]
    have e : t.sides.length = hgt i l.length := hg.same (hgt_is hi)
    simp [e]
theorem PathsOk.each {T : List ByteArray} {l : List Rc} {ls : List ByteArray} {key : ByteArray} {r : Nat} {ts : List Pt} (h : PathsOk T l ls key r ts) : ∀ t ∈ ts, ∃ i, PathOk T l ls i t := by
  intro t ht
  cases hh : hasAt l r key
  · obtain ⟨A, B, rfl, hA, hB⟩ := h.2 hh
    rcases List.mem_append.1 ht with ht | ht
    · by_cases hr : r = 0
      · rw [hA.1 hr] at ht; cases ht
      · obtain ⟨u, e, hu⟩ := hA.2 (by omega)
        rw [e, List.mem_singleton] at ht
        subst ht
        exact ⟨_, hu⟩
    · by_cases hr : l.length ≤ r
      · rw [hB.1 hr] at ht; cases ht
      · obtain ⟨u, e, hu⟩ := hB.2 (by omega)
        rw [e, List.mem_singleton] at ht
        subst ht
        exact ⟨_, hu⟩
  · obtain ⟨u, e, hu⟩ := h.1 hh
    rw [e, List.mem_singleton] at ht
    subst ht
    exact ⟨_, hu⟩
theorem PathsOk.two {T : List ByteArray} {l : List Rc} {ls : List ByteArray} {key : ByteArray} {r : Nat} {ts : List Pt} (h : PathsOk T l ls key r ts) : ts.length ≤ 2 := by
  cases hh : hasAt l r key
  · obtain ⟨A, B, rfl, hA, hB⟩ := h.2 hh
    have hA1 : A.length ≤ 1 := by
      by_cases hr : r = 0
      · rw [hA.1 hr]; simp
      · obtain ⟨u, e, _⟩ := hA.2 (by omega); rw [e]; simp
    have hB1 : B.length ≤ 1 := by
      by_cases hr : l.length ≤ r
      · rw [hB.1 hr]; simp
      · obtain ⟨u, e, _⟩ := hB.2 (by omega); rw [e]; simp
    rw [List.length_append]; omega
  · obtain ⟨u, e, _⟩ := h.1 hh
    rw [e]; simp
theorem PathsOk.fits {T : List ByteArray} {l : List Rc} {ls : List ByteArray} {key : ByteArray} {r : Nat} {ts : List Pt} (h : PathsOk T l ls key r ts) (hl : Lvs T l ls) (hn : l.length ≤ 4096) (hz : ∀ m ∈ l, m.key.size ≤ 64 ∧ m.dat.size ≤ 4096) : pfFits ⟨l.length, ts⟩ = true := by
  unfold pfFits pfOk
  have h2 := h.two
  show (decide (0 ≤ (l.length : Int) ∧ (l.length : Int) ≤ 4096) && (decide (ts.length ≤ 2) && ts.all ptOk) && ts.all (ptFits l.length)) = true
  rw [decide_eq_true (by omega), decide_eq_true h2]
  simp only [Bool.true_and, Bool.and_eq_true]
  refine ⟨List.all_eq_true.2 (fun t ht => ?_), List.all_eq_true.2 (fun t ht => ?_)⟩
  · obtain ⟨i, hi⟩ := h.each t ht; exact (hi.ok hl hn hz).1
  · obtain ⟨i, hi⟩ := h.each t ht; exact (hi.ok hl hn hz).2
theorem PathsOk.led {T : List ByteArray} {l : List Rc} {ls : List ByteArray} {key : ByteArray} {r : Nat} {ts : List Pt} {d : ByteArray} (h : PathsOk T l ls key r ts) (hl : Lvs T l ls) (hr : RootOf T l d) : LedAll T ⟨l.length, ts⟩ d := by
  obtain ⟨ls', t, k1, k2, k3, rfl⟩ := hr
  obtain rfl := hl.same k1
  refine ⟨fun h0 => ?_, fun u hu => ?_⟩
  · have h0 : ts = [] := h0
    subst h0
    have hlen : l.length = 0 := by
      cases hh : hasAt l r key
      · obtain ⟨A, B, e, hA, hB⟩ := h.2 hh
        obtain ⟨rfl, rfl⟩ := List.append_eq_nil_iff.1 e.symm
        have r0 : r = 0 := by
          by_cases hr : r = 0
          · exact hr
          · obtain ⟨u, e, _⟩ := hA.2 (by omega); cases e
        by_cases hr : l.length ≤ r
        · omega
        · obtain ⟨u, e, _⟩ := hB.2 (by omega); cases e
      · obtain ⟨u, e, _⟩ := h.1 hh; cases e
    have e2 : ls = [] := List.length_eq_zero_iff.1 (by rw [hl.len, hlen])
    subst e2
    have := k2.nil_inv
    subst this
    rw [hlen] at k3 ⊢
    exact ⟨k3, rfl⟩
  · obtain ⟨i, hi⟩ := h.each u hu
    exact hi.led hl k2 k3
theorem lsB_total {a c : ByteArray} (h : lsB a c = false) (hn : a ≠ c) : lsB c a = true := by
  have h1 := lsB_flip c a
  rw [h, Bool.not_false] at h1
  have h2 : (c.toList == a.toList) = false := by rw [strEq]; exact decide_eq_false (fun e => hn e.symm)
  rw [h2, Bool.or_false] at h1
  exact h1
theorem PathsOk.shows {T : List ByteArray} {l : List Rc} {ls : List ByteArray} {key : ByteArray} {r : Nat} {ts : List Pt} (h : PathsOk T l ls key r ts) (hs : Spot l key r) : showsB ⟨l.length, ts⟩ key = true := by
  cases hh : hasAt l r key
  · obtain ⟨A, B, rfl, hA, hB⟩ := h.2 hh
    have hB2 : r < l.length → ∃ u, B = [u] ∧ u.idx = r ∧ lsB key u.key = true := fun hr => by
      obtain ⟨u, e, hidx, m, hm, hk, _⟩ := hB.2 hr
      obtain ⟨hl2, e2⟩ := List.getElem?_eq_some_iff.1 hm
      refine ⟨u, e, hidx, ?_⟩
      have h1 := hs.hi r hr (Nat.le_refl _)
      rw [e2] at h1
      have h2 : m.key ≠ key := by unfold hasAt at hh; rw [hm] at hh; simpa using hh
      rw [hk]; exact lsB_total h1 h2
    have hA2 : 0 < r → ∃ t, A = [t] ∧ t.idx = (r : Int) - 1 ∧ lsB t.key key = true := fun hr => by
      obtain ⟨t, e, hidx, m, hm, hk, _⟩ := hA.2 hr
      obtain ⟨hl2, e2⟩ := List.getElem?_eq_some_iff.1 hm
      refine ⟨t, e, by rw [hidx]; omega, ?_⟩
      have h1 := hs.lo (r - 1) hl2 (by omega)
      rw [e2] at h1
      rw [hk]; exact h1
    have hle := hs.le
    by_cases hr0 : r = 0
    · rw [hA.1 hr0, List.nil_append]
      by_cases hrl : l.length ≤ r
      · rw [hB.1 hrl]
        show decide ((l.length : Int) = 0) = true
        exact decide_eq_true (by omega)
      · obtain ⟨u, e, h1, h2⟩ := hB2 (by omega)
        rw [e]
        show (decide (u.key = key) || (decide (u.idx = 0) && lsB key u.key) || _) = true
        rw [h2, h1, decide_eq_true (p := ((r : Int) = 0)) (by omega)]
        simp
    · obtain ⟨t, e1, h1, h2⟩ := hA2 (by omega)
      rw [e1]
      by_cases hrl : l.length ≤ r
      · rw [hB.1 hrl]
        show (decide (t.key = key) || _ || (decide (t.idx = (l.length : Int) - 1) && lsB t.key key)) = true
        rw [h2, h1, decide_eq_true (p := ((r : Int) - 1 = (l.length : Int) - 1)) (by omega)]
        simp
      · obtain ⟨u, e, h3, h4⟩ := hB2 (by omega)
        rw [e]
        show (decide (u.idx = t.idx + 1) && lsB t.key key && lsB key u.key) = true
        rw [h2, h4, decide_eq_true (by rw [h3, h1]; omega)]
        rfl
  · obtain ⟨t, rfl, _, m, hm, hk, _⟩ := h.1 hh
    unfold hasAt at hh
    rw [hm] at hh
    have hh : decide (m.key = key) = true := hh
    show (decide (t.key = key) || _ || _) = true
    rw [hk, hh]
    rfl
end Go.Proofs.YtocphdikppeijaaGreat

namespace Go.Proofs.YtocphdikppeijaaGreat
open Go.RowKit
set_option linter.unusedSimpArgs false
set_option linter.unusedVariables false
variable {p b x y : Nat} {S : List (Int × ByteArray)}

theorem ptC_get : ∀ (L : List (Pt × Value)) (i : Nat) (h : i < L.length), (ptC L)[i * 4]? = some (.int .i64 L[i].1.idx) ∧ (ptC L)[i * 4 + 1]? = some (.string L[i].1.key) ∧ (ptC L)[i * 4 + 2]? = some (.string L[i].1.dat) ∧ (ptC L)[i * 4 + 3]? = some L[i].2
  | [], i, h => by simp at h
  | q :: L, i, h => by
    have e : ptC (q :: L) = .int .i64 q.1.idx :: .string q.1.key :: .string q.1.dat :: q.2 :: ptC L := by simp [ptC]
    rw [e]
    match i, h with
    | 0, _ => exact ⟨rfl, rfl, rfl, rfl⟩
    | i + 1, h =>
      have ih := ptC_get L i (by simpa using h)
      refine ⟨?_, ?_, ?_, ?_⟩
      · rw [show (i + 1) * 4 = i * 4 + 1 + 1 + 1 + 1 by omega]; simp only [List.getElem?_cons_succ]; exact ih.1
      · rw [show (i + 1) * 4 + 1 = i * 4 + 1 + 1 + 1 + 1 + 1 by omega]; simp only [List.getElem?_cons_succ]; exact ih.2.1
      · rw [show (i + 1) * 4 + 2 = i * 4 + 2 + 1 + 1 + 1 + 1 by omega]; simp only [List.getElem?_cons_succ]; exact ih.2.2.1
      · rw [show (i + 1) * 4 + 3 = i * 4 + 3 + 1 + 1 + 1 + 1 by omega]; simp only [List.getElem?_cons_succ]; exact ih.2.2.2
theorem strs_lf {w : World} {v : Value} {l : List ByteArray} (h : Lf w v l) (hz : ∀ s ∈ l, s.size ≤ 32) : Strs w v l := by
  by_cases h0 : l.length = 0
  · obtain rfl := List.length_eq_zero_iff.1 h0
    obtain ⟨a, cap, e, _⟩ := h
    exact Or.inl ⟨⟨a, cap, e⟩, rfl⟩
  · obtain ⟨g, off, cap, e, _, _, hx⟩ := h.at (by omega)
    exact Or.inr ⟨g, off, cap, e, fun i hi => ⟨hx i hi, Nat.le_trans (hz _ (List.getElem_mem hi)) (by unfold maxLen; omega)⟩⟩
theorem ptsC_own {w : World} {base : Nat} {v : Value} {L : List (Pt × Value)} (h : w.ownsRow base 111 4 v L.length (ptC L)) (hs : ∀ q ∈ L, w.ownsRow base 9 1 q.2 q.1.sides.length (txC q.1.sides)) (hok : ∀ q ∈ L, ptOk q.1 = true) : PtsC w v (L.map Prod.fst) := by
  by_cases h0 : L.length = 0
  · obtain rfl := List.length_eq_zero_iff.1 h0
    obtain ⟨p, c, rfl⟩ := own_sliceM h
    exact ⟨Or.inl ⟨⟨p, c, rfl⟩, rfl⟩, fun k hk => by simp at hk⟩
  · obtain ⟨g, cap, rfl, _, _, hx⟩ := own_at h (by omega)
    have hl : (L.map Prod.fst).length = L.length := by simp
    refine ⟨Or.inr ⟨g, 0, cap, by rw [hl], fun i hi => ?_⟩, fun k hk g' off' cap' e => ?_⟩
    · have hi' : i < L.length := by omega
      obtain ⟨c0, c1, c2, c3⟩ := ptC_get L i hi'
      have ok := ptOk_parts (hok L[i] (List.getElem_mem hi'))
      have hm := hs L[i] (List.getElem_mem hi')
      have e : (L.map Prod.fst)[i] = L[i].1 := by simp
      rw [e, Nat.zero_add]
      exact ⟨L[i].2, hx _ _ c0, hx _ _ c1, hx _ _ c2, hx _ _ c3, strs_lf (lf_own hm) ok.2.2.2.2, Nat.le_trans ok.2.1 (by unfold maxLen; omega), Nat.le_trans ok.2.2.1 (by unfold maxLen; omega)⟩
    · have hi' : k < L.length := by omega
      simp only [Value.slice.injEq, Option.some.injEq, Addr.mk.injEq, and_true] at e
      obtain ⟨⟨rfl, rfl⟩, _⟩ := e
      obtain ⟨c0, c1, c2, c3⟩ := ptC_get L k hi'
      have e : (L.map Prod.fst)[k] = L[k].1 := by simp
      rw [e, Nat.zero_add]
      exact ⟨L[k].2, hx _ _ c3, lf_own (hs L[k] (List.getElem_mem hi'))⟩

def exL : List Rc := [⟨⟨#[97]⟩, ⟨#[49]⟩⟩, ⟨⟨#[99]⟩, ⟨#[51]⟩⟩]
theorem exRise : riseR exL = 0 := by decide +kernel
theorem exKb : isK ⟨#[98]⟩ = true := by decide +kernel
theorem exKa : isK ⟨#[97]⟩ = true := by decide +kernel
theorem exLen : exL.length = 2 := rfl
theorem exSpot {r : Nat} (h : Spot exL ⟨#[98]⟩ r) : r = 1 := by
  have h1 := h.le
  rw [exLen] at h1
  by_cases h2 : r = 0
  · have h3 : lsB ⟨#[97]⟩ ⟨#[98]⟩ = false := h.hi 0 (by rw [exLen]; omega) (by omega)
    have h4 : lsB ⟨#[97]⟩ ⟨#[98]⟩ = true := by decide +kernel
    rw [h4] at h3; cases h3
  · by_cases h5 : r = 2
    · have h3 : lsB ⟨#[99]⟩ ⟨#[98]⟩ = true := h.lo 1 (by rw [exLen]; omega) (by omega)
      have h4 : lsB ⟨#[99]⟩ ⟨#[98]⟩ = false := by decide +kernel
      rw [h4] at h3; cases h3
    · omega
theorem exHas : hasAt exL 1 ⟨#[98]⟩ = false := by decide +kernel
theorem exPaths {T ls : List ByteArray} {ts : List Pt} (h : PathsOk T exL ls ⟨#[98]⟩ 1 ts) : ∃ t u, ts = [t, u] ∧ t.key = ⟨#[97]⟩ := by
  obtain ⟨A, B, rfl, hA, hB⟩ := h.2 exHas
  obtain ⟨t, rfl, _, m, hm, hk, _⟩ := hA.2 (by omega)
  obtain ⟨u, rfl, _⟩ := hB.2 (by rw [exLen]; omega)
  refine ⟨t, u, rfl, ?_⟩
  have e : exL[1 - 1]? = some ⟨⟨#[97]⟩, ⟨#[49]⟩⟩ := rfl
  rw [e] at hm
  injection hm with hm
  rw [hk, ← hm]
theorem dig_ne (T : List ByteArray) (s : ByteArray) : dig T s ≠ ⟨#[]⟩ := fun e => by
  have h := dig_size T s
  rw [e] at h
  cases h

end Go.Proofs.YtocphdikppeijaaGreat

namespace Go.Proofs.YtocphdikppeijaaGreat
open Go.RowKit
set_option linter.unusedVariables false
set_option linter.unusedSimpArgs false

theorem lsB_nil (a : ByteArray) (h : a.size ≠ 0) : lsB ⟨#[]⟩ a = true := by
  unfold lsB
  have e : (⟨#[]⟩ : ByteArray).toList = [] := by rw [ByteArray.toList_eq]
  have h' : a.size = a.data.toList.length := by rw [Array.length_toList]; rfl
  rw [e, ByteArray.toList_eq]
  cases hh : a.data.toList with
  | nil => rw [hh] at h'; exact absurd h' h
  | cons x y => rfl

end Go.Proofs.YtocphdikppeijaaGreat

namespace Go.Proofs.YtocphdikppeijaaGreat
open Go.RowKit
set_option linter.unusedSimpArgs false
set_option linter.unusedVariables false
variable {p b x y : Nat} {T : List ByteArray} {S : List (Int × ByteArray)}

/-- Records in a slice that can be cut. -/
def RcsC (w : World) (v : Value) (l : List Rc) : Prop := Rcs w v l ∧ ∃ a cap, v = .slice a l.length cap ∧ l.length ≤ cap ∧ cap ≤ 9223372036854775807
theorem RcsC.below {w w' : World} {v : Value} {l : List Rc} (h : RcsC w v l) (hb : Below w.heap.size w w') : RcsC w' v l := ⟨h.1.below hb, h.2⟩
theorem RcsC.len {w : World} {v : Value} {l : List Rc} (h : RcsC w v l) : l.length ≤ 9223372036854775807 := by
  obtain ⟨_, _, _, _, h1, h2⟩ := h
  omega
end Go.Proofs.YtocphdikppeijaaGreat
