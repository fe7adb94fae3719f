/- What an accepted proof tells is what there is; the document's look at records. -/
import Derived.Test.YtpcafjbebhcilaaGreatTm35
namespace Go.Proofs.YtpcafjbebhcilaaGreat
open Go.RowKit
set_option linter.unusedSimpArgs false
set_option linter.unusedVariables false

/-- What there is at a key. -/
def Truth (l : List Rc) (key val : ByteArray) (has : Bool) : Prop := (has = false ∧ val = ⟨#[]⟩ ∧ ∀ m ∈ l, m.key ≠ key) ∨ (has = true ∧ ∃ m ∈ l, m.key = key ∧ m.dat = val)
theorem lsB_ne {a c : ByteArray} (h : lsB a c = true) : a ≠ c := fun e => by rw [e, lsB_irr] at h; cases h
theorem rising_uniq {l : List Rc} (h : Rising l) {m n : Rc} (hm : m ∈ l) (hn : n ∈ l) (e : m.key = n.key) : m = n := by
  obtain ⟨i, hi, rfl⟩ := List.mem_iff_getElem.1 hm
  obtain ⟨j, hj, rfl⟩ := List.mem_iff_getElem.1 hn
  rcases Nat.lt_trichotomy i j with hlt | rfl | hlt
  · exact absurd e (lsB_ne (h i j hlt hj))
  · rfl
  · exact absurd e.symm (lsB_ne (h j i hlt hi))
theorem led_at {T : List ByteArray} (hT : T.length < 1000000) {l : List Rc} {r : ByteArray} (hr : RootOf T l r) (hl : l.length ≤ 4096) (hz : ∀ m ∈ l, m.key.size ≤ 64 ∧ m.dat.size ≤ 4096) {cnt : Nat} (hc : cnt ≤ 4096) {t : Pt} (ht : ptOk t = true) (h : Led T cnt t r) : cnt = l.length ∧ l[t.idx.toNat]? = some ⟨t.key, t.dat⟩ := by
  obtain ⟨ls, d, k1, k2, k3, k4⟩ := hr
  obtain ⟨h1, a, h2, h3, h4⟩ := h
  obtain ⟨_, p1, p2, _, p3⟩ := ptOk_parts ht
  have s1 := k2.small k1.small
  have s2 := h2.small (by rw [dig_size]; omega)
  have e := dig_inj hT k3 h3 (k4.symm.trans h4)
  obtain ⟨e1, e2⟩ := rootT_inj (by omega) (by omega) (by omega) (by omega) e
  subst e2
  have hs := Climb.sound hT (by rw [dig_size]; omega) h2 p3 k2 (by rw [k1.len, e1]) k1.small
  refine ⟨e1.symm, ?_⟩
  rw [k1.1, List.getElem?_map] at hs
  cases hm : l[t.idx.toNat]? with
  | none => rw [hm] at hs; cases hs
  | some m =>
    rw [hm] at hs
    have hs : some (dig T (leafT m)) = some (dig T (leafT ⟨t.key, t.dat⟩)) := hs
    injection hs with hs
    have hmm : m ∈ l := List.mem_of_getElem? hm
    obtain ⟨q1, q2⟩ := hz m hmm
    have := leafT_inj (by omega) (by omega) (by show t.key.size ≤ _; omega) (by show t.dat.size ≤ _; omega) (dig_inj hT (k1.2 m hmm) h1 hs)
    rw [this]
/-- An accepted proof tells what there is. -/
theorem sound {T : List ByteArray} (hT : T.length < 1000000) {l : List Rc} {r : ByteArray} (hr : RootOf T l r) (h0 : riseR l = 0) {q : Pf} {key : ByteArray} (hf : pfFits q = true) (hs : showsB q key = true) (h : LedAll T q r) : Truth l key (valB q key) (thereB q key) := by
  obtain ⟨hl, hz⟩ := riseR_ok h0
  have hri := rising_of h0
  obtain ⟨hok, hfit⟩ := pfFits_parts hf
  obtain ⟨⟨hc0, hc1⟩, hp2, hpt⟩ := pfOk_parts hok
  have hat : ∀ t ∈ q.paths, q.cnt.toNat = l.length ∧ l[t.idx.toNat]? = some ⟨t.key, t.dat⟩ := fun t ht => led_at hT hr hl hz (by omega) (hpt t ht) (h.2 t ht)
  have hge : ∀ t ∈ q.paths, 0 ≤ t.idx := fun t ht => (ptOk_parts (hpt t ht)).1.1
  obtain ⟨cnt, paths⟩ := q
  simp only at hc0 hc1 hp2 hat hge
  match paths, hs, h, hat, hge, hp2 with
  | [], hs, h, hat, hge, hp2 =>
    left
    refine ⟨rfl, rfl, ?_⟩
    obtain ⟨k1, k2⟩ := h.1 rfl
    obtain ⟨ls, d, j1, j2, j3, j4⟩ := hr
    have s1 := j2.small j1.small
    obtain ⟨e1, _⟩ := rootT_inj (by omega) (by omega) (by omega) (by decide) (dig_inj hT j3 k1 (j4.symm.trans k2))
    rw [List.length_eq_zero_iff.1 e1]
    intro m hm; cases hm
  | [t], hs, h, hat, hge, hp2 =>
    obtain ⟨c1, c2⟩ := hat t (by simp)
    have g1 := hge t (by simp)
    have hs : (decide (t.key = key) || (decide (t.idx = 0) && lsB key t.key) || (decide (t.idx = cnt - 1) && lsB t.key key)) = true := hs
    obtain ⟨c3, c4⟩ := List.getElem?_eq_some_iff.1 c2
    by_cases hk : t.key = key
    · right
      exact ⟨decide_eq_true hk, ⟨t.key, t.dat⟩, List.mem_of_getElem? c2, hk, (if_pos hk).symm⟩
    · left
      refine ⟨decide_eq_false hk, if_neg hk, ?_⟩
      rw [decide_eq_false hk, Bool.false_or, Bool.or_eq_true, Bool.and_eq_true, Bool.and_eq_true, decide_eq_true_eq, decide_eq_true_eq] at hs
      intro m hm
      obtain ⟨i, hi, rfl⟩ := List.mem_iff_getElem.1 hm
      rcases hs with ⟨e0, hlt⟩ | ⟨e1, hlt⟩
      · have hi0 : t.idx.toNat = 0 := by omega
        by_cases hi2 : i = t.idx.toNat
        · subst hi2; rw [c4]; exact fun e => lsB_ne hlt e.symm
        · have h3 := hri t.idx.toNat i (by omega) hi
          rw [c4] at h3
          exact fun e => lsB_ne (lsB_trans hlt h3) e.symm
      · by_cases hi2 : i = t.idx.toNat
        · subst hi2; rw [c4]; exact fun e => lsB_ne hlt e
        · have h3 := hri i t.idx.toNat (by omega) c3
          rw [c4] at h3
          exact fun e => lsB_ne (lsB_trans h3 hlt) e
  | t :: u :: [], hs, h, hat, hge, hp2 =>
    obtain ⟨c1, c2⟩ := hat t (by simp)
    obtain ⟨d1, d2⟩ := hat u (by simp)
    have g1 := hge t (by simp)
    have hs : (decide (u.idx = t.idx + 1) && lsB t.key key && lsB key u.key) = true := hs
    rw [Bool.and_eq_true, Bool.and_eq_true, decide_eq_true_eq] at hs
    obtain ⟨⟨e1, l1⟩, l2⟩ := hs
    obtain ⟨c3, c4⟩ := List.getElem?_eq_some_iff.1 c2
    obtain ⟨d3, d4⟩ := List.getElem?_eq_some_iff.1 d2
    left
    refine ⟨rfl, rfl, ?_⟩
    intro m hm
    obtain ⟨i, hi, rfl⟩ := List.mem_iff_getElem.1 hm
    have e2 : u.idx.toNat = t.idx.toNat + 1 := by omega
    by_cases hi2 : i ≤ t.idx.toNat
    · by_cases hi3 : i = t.idx.toNat
      · subst hi3; rw [c4]; exact fun e => lsB_ne l1 e
      · have h3 := hri i t.idx.toNat (by omega) c3
        rw [c4] at h3
        exact fun e => lsB_ne (lsB_trans h3 l1) e
    · by_cases hi3 : i = u.idx.toNat
      · subst hi3; rw [d4]; exact fun e => lsB_ne l2 e.symm
      · have h3 := hri u.idx.toNat i (by omega) hi
        rw [d4] at h3
        exact fun e => lsB_ne (lsB_trans l2 h3) e.symm
  | _ :: _ :: _ :: _, hs, h, hat, hge, hp2 => simp at hp2

set_option maxHeartbeats 1000000 in
theorem refFits_calls (key : ByteArray) (w : World) : Calls Tryz.prog 12 #[.string key] w fun e w' => e = .returned (.bool (isK key)) ∧ w' = w := by
  unfold isK
  by_cases h1 : 1 ≤ key.size
  · have hd1 : decide ((1 : Int) ≤ (key.size : Int)) = true := by simp only [decide_eq_true_eq]; omega
    have hd2 : decide (1 ≤ key.size ∧ key.size ≤ 64) = decide ((key.size : Int) ≤ 64) := by
      by_cases h2 : key.size ≤ 64
      · rw [decide_eq_true ⟨h1, h2⟩, decide_eq_true (by omega)]
      · rw [decide_eq_false (fun h => h2 h.2), decide_eq_false (by omega)]
    rw [hd2]
    go_enter Tryz.func12, Tryz.ntmps12
    go_wp2
    go_ret
    exact ⟨rfl, rfl⟩
  · have hd1 : decide ((1 : Int) ≤ (key.size : Int)) = false := by simp only [decide_eq_false_iff_not]; omega
    have hd2 : decide (1 ≤ key.size ∧ key.size ≤ 64) = false := decide_eq_false (fun h => h1 h.1)
    rw [hd2]
    go_enter Tryz.func12, Tryz.ntmps12
    go_wp2
    go_ret
    exact ⟨rfl, rfl⟩
set_option maxHeartbeats 4000000 in
set_option maxRecDepth 100000 in
theorem refAt_calls (v : Value) (l : List Rc) (key : ByteArray) (w : World) (h : Rcs w v l) (hl : l.length ≤ 4096) :
    Calls Tryz.prog 26 #[v, .string key] w fun e w' => w' = w ∧ ((e = .returned (.int .i64 (-1)) ∧ ∀ m ∈ l, m.key ≠ key) ∨ ∃ (k : Nat) (m : Rc), e = .returned (.int .i64 k) ∧ l[k]? = some m ∧ m.key = key) := by
  obtain ⟨a, cap, rfl⟩ := h.len
  go_enter Tryz.func26, Tryz.ntmps26
  go_wp2_with fail
  go_loopw [5] (fun i wr => ∃ k : Nat, k ≤ l.length ∧ i = .int .i64 k ∧ Hid (∀ m ∈ l.take k, m.key ≠ key) ∧ wr = w) (fun i _ => l.length - (intOf i).toNat)
  case atStart => exact ⟨0, Nat.zero_le _, rfl, by show ∀ m ∈ _, _; simp, rfl⟩
  case round =>
    obtain ⟨k, hk, rfl, hall, rfl⟩ := hrel
    by_cases hlt : k < l.length
    · have hd : decide ((k : Int) < (l.length : Int)) = true := by simp only [decide_eq_true_eq]; omega
      obtain ⟨g, off, rfl, m0⟩ : ∃ g off, a = some ⟨g, off, none⟩ ∧ wr.cell? ⟨g, off + k * 2, none⟩ = some (.string l[k].key) := by
        rcases h with ⟨_, h0⟩ | ⟨g, off, c, e, hx⟩
        · rw [h0] at hlt; simp at hlt
        · simp only [Value.slice.injEq] at e
          exact ⟨g, off, e.1, (hx k hlt).1⟩
      have hg : l[k]? = some l[k] := List.getElem?_eq_getElem hlt
      have HT : Hid (l[k].key ≠ key → ∀ m ∈ l.take (k + 1), m.key ≠ key) := fun hn m hm => by
        rw [List.take_succ_eq_append_getElem hlt, List.mem_append, List.mem_singleton] at hm
        rcases hm with hm | rfl
        · exact hall.out m hm
        · exact hn
      generalize l[k] = m at *
      have HG : Hid _ := hg
      have HH : Hid _ := h
      clear hg h hall
      by_cases hkk : m.key = key
      · have d1 : (m.key.toList == key.toList) = true := by rw [strEq]; exact decide_eq_true hkk
        go_wp2
        go_ret
        exact ⟨rfl, Or.inr ⟨k, m, rfl, HG.out, hkk⟩⟩
      · have d1 : (m.key.toList == key.toList) = false := by rw [strEq]; exact decide_eq_false hkk
        go_wp2
        refine ⟨⟨k + 1, by omega, by norm_cast, HT.out hkk, by trivial⟩, ?_⟩
        simp [intOf]; omega
    · have hd : decide ((k : Int) < (l.length : Int)) = false := by simp only [decide_eq_false_iff_not]; omega
      obtain rfl : k = l.length := by omega
      go_wp2
      go_ret
      have := hall.out
      rw [List.take_length] at this
      exact ⟨rfl, Or.inl ⟨rfl, this⟩⟩
set_option maxHeartbeats 4000000 in
set_option maxRecDepth 100000 in
theorem truth_calls (v : Value) (l : List Rc) (key val : ByteArray) (has : Bool) (w : World) (h : Rcs w v l) (hl : l.length ≤ 4096) (hri : Rising l) (ht : Truth l key val has) :
    Calls Tryz.prog 27 #[v, .string key, .string val, .bool has] w fun e w' => e = .returned (.bool true) ∧ w' = w := by
  have HA : Hid _ := refAt_calls v l key w h hl
  obtain ⟨a, cap, rfl⟩ := h.len
  have HH : Hid _ := h
  have HT : Hid _ := ht
  clear h ht
  go_enter Tryz.func27, Tryz.ntmps27
  go_wp2_with fail
  refine Calls.mono HA.out ?_
  rintro e w1 ⟨rfl, ⟨rfl, hn⟩ | ⟨k, m, rfl, hm, hk⟩⟩
  · have ht : has = false ∧ val = ⟨#[]⟩ := by
      rcases HT.out with ⟨h1, h2, _⟩ | ⟨_, m, hm, hk, _⟩
      · exact ⟨h1, h2⟩
      · exact absurd hk (hn m hm)
    obtain ⟨rfl, rfl⟩ := ht
    go_wp2
    go_ret
    exact ⟨rfl, rfl⟩
  · have hmm : m ∈ l := List.mem_of_getElem? hm
    have ht : has = true ∧ val = m.dat := by
      rcases HT.out with ⟨_, _, h2⟩ | ⟨h1, n, hn, hk2, hv⟩
      · exact absurd hk (h2 m hmm)
      · refine ⟨h1, ?_⟩
        rw [← hv, rising_uniq hri hmm hn (hk.trans hk2.symm)]
    obtain ⟨rfl, rfl⟩ := ht
    obtain ⟨hkl, hme⟩ := List.getElem?_eq_some_iff.1 hm
    obtain ⟨g, off, rfl, m1⟩ : ∃ g off, a = some ⟨g, off, none⟩ ∧ w1.cell? ⟨g, off + k * 2 + 1, none⟩ = some (.string m.dat) := by
      rcases HH.out with ⟨_, h0⟩ | ⟨g, off, c, e, hx⟩
      · rw [h0] at hkl; simp at hkl
      · simp only [Value.slice.injEq] at e
        have := (hx k hkl).2.1
        rw [hme] at this
        exact ⟨g, off, e.1, this⟩
    have d0 : decide ((k : Int) < 0) = false := decide_eq_false (by omega)
    have d1 : (k : Int) < (l.length : Int) := by omega
    clear hm hme HT HH
    go_wp2
    go_ret
    exact ⟨rfl, rfl⟩
end Go.Proofs.YtpcafjbebhcilaaGreat
