/- What an accepted proof tells is what there is; the document's look at records. -/
import Derived.Test.YtocphdikppeijaaGreatLy32
import Derived.Test.YtocphdikppeijaaGreatLy16
namespace Go.Proofs.YtocphdikppeijaaGreat
open Go.RowKit
set_option linter.unusedSimpArgs false
set_option linter.unusedVariables false

/-- What there is at a key. -/
def Truth (l : List Rc) (key val : ByteArray) (has : Bool) : Prop := (has = false ∧ val = ⟨#[]⟩ ∧ ∀ m ∈ l, m.key ≠ key) ∨ (has = true ∧ ∃ m ∈ l, m.key = key ∧ m.dat = val)
theorem lsB_ne {a c : ByteArray} (h : lsB a c = true) : a ≠ c := fun e => by rw [e, lsB_irr] at h; cases h
theorem rising_uniq {l : List Rc} (h : Rising l) {m n : Rc} (hm : m ∈ l) (hn : n ∈ l) (e : m.key = n.key) : m = n := by
  obtain ⟨i, hi, rfl⟩ := List.mem_iff_getElem.1 hm
  obtain ⟨j, hj, rfl⟩ := List.mem_iff_getElem.1 hn
  rcases Nat.lt_trichotomy i j with hlt | rfl | hlt
  · exact absurd e (lsB_ne (h i j hlt hj))
  · rfl
  · exact absurd e.symm (lsB_ne (h j i hlt hi))
theorem led_at {T : List ByteArray} (hT : T.length < 1000000) {l : List Rc} {r : ByteArray} (hr : RootOf T l r) (hl : l.length ≤ 4096) (hz : ∀ m ∈ l, m.key.size ≤ 64 ∧ m.dat.size ≤ 4096) {cnt : Nat} (hc : cnt ≤ 4096) {t : Pt} (ht : ptOk t = true) (h : Led T cnt t r) : cnt = l.length ∧ l[t.idx.toNat]? = some ⟨t.key, t.dat⟩ := by
  obtain ⟨ls, d, k1, k2, k3, k4⟩ := hr
  obtain ⟨h1, a, h2, h3, h4⟩ := h
  obtain ⟨_, p1, p2, _, p3⟩ := ptOk_parts ht
  have s1 := k2.small k1.small
  have s2 := h2.small (by rw [dig_size]; omega)
  have e := dig_inj hT k3 h3 (k4.symm.trans h4)
  obtain ⟨e1, e2⟩ := rootT_inj (by omega) (by omega) (by omega) (by omega) e
  subst e2
  have hs := Climb.sound hT (by rw [dig_size]; omega) h2 p3 k2 (by rw [k1.len, e1]) k1.small
  refine ⟨e1.symm, ?_⟩
  rw [k1.1, List.getElem?_map] at hs
  cases hm : l[t.idx.toNat]? with
  | none => rw [hm] at hs; cases hs
  | some m =>
    rw [hm] at hs
    have hs : some (dig T (leafT m)) = some (dig T (leafT ⟨t.key, t.dat⟩)) := hs
    injection hs with hs
    have hmm : m ∈ l := List.mem_of_getElem? hm
    obtain ⟨q1, q2⟩ := hz m hmm
    have := leafT_inj (by omega) (by omega) (by show t.key.size ≤ _; omega) (by show t.dat.size ≤ _; omega) (dig_inj hT (k1.2 m hmm) h1 hs)
    rw [this]
/-- An accepted proof tells what there is. -/
theorem sound {T : List ByteArray} (hT : T.length < 1000000) {l : List Rc} {r : ByteArray} (hr : RootOf T l r) (h0 : riseR l = 0) {q : Pf} {key : ByteArray} (hf : pfFits q = true) (hs : showsB q key = true) (h : LedAll T q r) : Truth l key (valB q key) (thereB q key) := by
  obtain ⟨hl, hz⟩ := riseR_ok h0
  have hri := rising_of h0
  obtain ⟨hok, hfit⟩ := pfFits_parts hf
  obtain ⟨⟨hc0, hc1⟩, hp2, hpt⟩ := pfOk_parts hok
  have hat : ∀ t ∈ q.paths, q.cnt.toNat = l.length ∧ l[t.idx.toNat]? = some ⟨t.key, t.dat⟩ := fun t ht => led_at hT hr hl hz (by omega) (hpt t ht) (h.2 t ht)
  have hge : ∀ t ∈ q.paths, 0 ≤ t.idx := fun t ht => (ptOk_parts (hpt t ht)).1.1
  obtain ⟨cnt, paths⟩ := q
  simp only at hc0 hc1 hp2 hat hge
  match paths, hs, h, hat, hge, hp2 with
  | [], hs, h, hat, hge, hp2 =>
    left
    refine ⟨rfl, rfl, ?_⟩
    obtain ⟨k1, k2⟩ := h.1 rfl
    obtain ⟨ls, d, j1, j2, j3, j4⟩ := hr
    have s1 := j2.small j1.small
    obtain ⟨e1, _⟩ := rootT_inj (by omega) (by omega) (by omega) (by decide) (dig_inj hT j3 k1 (j4.symm.trans k2))
    rw [List.length_eq_zero_iff.1 e1]
    intro m hm; cases hm
  | [t], hs, h, hat, hge, hp2 =>
    obtain ⟨c1, c2⟩ := hat t (by simp)
    have g1 := hge t (by simp)
    have hs : (decide (t.key = key) || (decide (t.idx = 0) && lsB key t.key) || (decide (t.idx = cnt - 1) && lsB t.key key)) = true := hs
    obtain ⟨c3, c4⟩ := List.getElem?_eq_some_iff.1 c2
    by_cases hk : t.key = key
    · right
      exact ⟨decide_eq_true hk, ⟨t.key, t.dat⟩, List.mem_of_getElem? c2, hk, (if_pos hk).symm⟩
    · left
      refine ⟨decide_eq_false hk, if_neg hk, ?_⟩
      rw [decide_eq_false hk, Bool.false_or, Bool.or_eq_true, Bool.and_eq_true, Bool.and_eq_true, decide_eq_true_eq, decide_eq_true_eq] at hs
      intro m hm
      obtain ⟨i, hi, rfl⟩ := List.mem_iff_getElem.1 hm
      rcases hs with ⟨e0, hlt⟩ | ⟨e1, hlt⟩
      · have hi0 : t.idx.toNat = 0 := by omega
        by_cases hi2 : i = t.idx.toNat
        · subst hi2; rw [c4]; exact fun e => lsB_ne hlt e.symm
        · have h3 := hri t.idx.toNat i (by omega) hi
          rw [c4] at h3
          exact fun e => lsB_ne (lsB_trans hlt h3) e.symm
      · by_cases hi2 : i = t.idx.toNat
        · subst hi2; rw [c4]; exact fun e => lsB_ne hlt e
        · have h3 := hri i t.idx.toNat (by omega) c3
          rw [c4] at h3
          exact fun e => lsB_ne (lsB_trans h3 hlt) e
  | t :: u :: [], hs, h, hat, hge, hp2 =>
    obtain ⟨c1, c2⟩ := hat t (by simp)
    obtain ⟨d1, d2⟩ := hat u (by simp)
    have g1 := hge t (by simp)
    have hs : (decide (u.idx = t.idx + 1) && lsB t.key key && lsB key u.key) = true := hs
    rw [Bool.and_eq_true, Bool.and_eq_true, decide_eq_true_eq] at hs
    obtain ⟨⟨e1, l1⟩, l2⟩ := hs
    obtain ⟨c3, c4⟩ := List.getElem?_eq_some_iff.1 c2
    obtain ⟨d3, d4⟩ := List.getElem?_eq_some_iff.1 d2
    left
    refine ⟨rfl, rfl, ?_⟩
    intro m hm
    obtain ⟨i, hi, rfl⟩ := List.mem_iff_getElem.1 hm
    have e2 : u.idx.toNat = t.idx.toNat + 1 := by omega
    by_cases hi2 : i ≤ t.idx.toNat
    · by_cases hi3 : i = t.idx.toNat
      · subst hi3; rw [c4]; exact fun e => lsB_ne l1 e
      · have h3 := hri i t.idx.toNat (by omega) c3
        rw [c4] at h3
        exact fun e => lsB_ne (lsB_trans h3 l1) e
    · by_cases hi3 : i = u.idx.toNat
      · subst hi3; rw [d4]; exact fun e => lsB_ne l2 e.symm
      · have h3 := hri u.idx.toNat i (by omega) hi
        rw [d4] at h3
        exact fun e => lsB_ne (lsB_trans l2 h3) e.symm
  | _ :: _ :: _ :: _, hs, h, hat, hge, hp2 => simp at hp2

set_option maxHeartbeats 4000000 in
set_option maxRecDepth 100000 in
theorem refAt_calls (v : Value) (l : List Rc) (key : ByteArray) (w : World) (h : Rcs w v l) (hl : l.length ≤ 4096) :
    Calls Tryz.prog 10 #[v, .string key] w fun e w' => w' = w ∧ ((e = .returned (.int .i64 (-1)) ∧ ∀ m ∈ l, m.key ≠ key) ∨ ∃ (k : Nat) (m : Rc), e = .returned (.int .i64 k) ∧ l[k]? = some m ∧ m.key = key) := by
  obtain ⟨a, cap, rfl⟩ := h.len
  go_enter Tryz.func10, Tryz.ntmps10
  go_wp2_with fail
  go_loopw [5] (fun i wr => ∃ k : Nat, k ≤ l.length ∧ i = .int .i64 k ∧ Hid (∀ m ∈ l.take k, m.key ≠ key) ∧ wr = w) (fun i _ => l.length - (intOf i).toNat)
  case atStart => exact ⟨0, Nat.zero_le _, rfl, by show ∀ m ∈ _, _; simp, rfl⟩
  case round =>
    obtain ⟨k, hk, rfl, hall, rfl⟩ := hrel
    by_cases hlt : k < l.length
    · have hd : decide ((k : Int) < (l.length : Int)) = true := by simp only [decide_eq_true_eq]; omega
      obtain ⟨g, off, rfl, m0⟩ : ∃ g off, a = some ⟨g, off, none⟩ ∧ wr.cell? ⟨g, off + k * 2, none⟩ = some (.string l[k].key) := by
        rcases h with ⟨_, h0⟩ | ⟨g, off, c, e, hx⟩
        · rw [h0] at hlt; simp at hlt
        · simp only [Value.slice.injEq] at e
          exact ⟨g, off, e.1, (hx k hlt).1⟩
      have hg : l[k]? = some l[k] := List.getElem?_eq_getElem hlt
      have HT : Hid (l[k].key ≠ key → ∀ m ∈ l.take (k + 1), m.key ≠ key) := fun hn m hm => by
        rw [List.take_succ_eq_append_getElem hlt, List.mem_append, List.mem_singleton] at hm
        rcases hm with hm | rfl
        · exact hall.out m hm
        · exact hn
      generalize l[k] = m at *
      have HG : Hid _ := hg
      have HH : Hid _ := h
      clear hg h hall
      by_cases hkk : m.key = key
      · have d1 : (m.key.toList == key.toList) = true := by rw [strEq]; exact decide_eq_true hkk
        go_wp2
        go_ret
        exact ⟨rfl, Or.inr ⟨k, m, rfl, HG.out, hkk⟩⟩
      · have d1 : (m.key.toList == key.toList) = false := by rw [strEq]; exact decide_eq_false hkk
        go_wp2
        refine ⟨⟨k + 1, by omega, by norm_cast, HT.out hkk, by trivial⟩, ?_⟩
        simp [intOf]; omega
    · have hd : decide ((k : Int) < (l.length : Int)) = false := by simp only [decide_eq_false_iff_not]; omega
      obtain rfl : k = l.length := by omega
      go_wp2
      go_ret
      have := hall.out
      rw [List.take_length] at this
      exact ⟨rfl, Or.inl ⟨rfl, this⟩⟩
end Go.Proofs.YtocphdikppeijaaGreat

namespace Go.Proofs.YtocphdikppeijaaGreat
open Go.ChangeShapes Go.WideShapes Go.ChangeAt Go.RowKit Go.Deep
set_option linter.unusedVariables false
set_option linter.unusedSimpArgs false

section
variable {H : Type} {enc : TypeId × Value → H} {w : World} {base : Nat} {spare : Nat → Bool} {held : Bool}
theorem cellsStrO : Tryz.prog.cellsOf 9 = 1 := by kernel_rfl
theorem cellsRecord : Tryz.prog.cellsOf 41 = 2 := by kernel_rfl
set_option maxRecDepth 100000 in
theorem open_record {fuel : Nat} {cs : List Value} {x : DataW H × List MemPlace} (h : DataW.trod enc Tryz.prog w base spare held fuel 41 cs = some x) :
    ∃ m : Rc, cs = [.string m.key, .string m.dat] ∧ m.key.size ≤ maxLen ∧ m.dat.size ≤ maxLen := by
  obtain ⟨y0, y1, n, hx, hl, h0, h1⟩ := trod_struct2 Tryz.underlying41 h
  rw [cellsRecord] at hl
  obtain ⟨a, b, rfl⟩ : ∃ a b, cs = [a, b] := by
    match cs, hl with
    | [a, b], _ => exact ⟨a, b, rfl⟩
  simp only [cellsStrO, List.drop_zero, List.drop_succ_cons, List.take_succ_cons, List.take_zero] at h0 h1
  obtain ⟨s, e1, _, z1⟩ := DataW.trod_string Tryz.underlying9 h0
  obtain ⟨t, e2, _, z2⟩ := DataW.trod_string Tryz.underlying9 h1
  simp only [List.cons.injEq, and_true] at e1 e2
  exact ⟨⟨s, t⟩, by rw [e1, e2], z1, z2⟩
theorem open_rcsF {fuel : Nat} {v : Value} {x : DataW H × List MemPlace} (h : DataW.trod enc Tryz.prog w base spare held fuel 22 [v] = some x) :
    ∃ l : List Rc, RcsC w v l := by
  rcases open_slice Tryz.underlying22 h with ⟨hv, _⟩ | ⟨a, len, cap, m, n, D, Pl, hv, _, hlc, hcm, hm, hxe, hx⟩
  · simp only [List.cons.injEq, and_true] at hv
    exact ⟨[], Or.inl ⟨⟨_, _, hv⟩, rfl⟩, _, _, hv, by simp, by omega⟩
  · simp only [List.cons.injEq, and_true] at hv
    subst hv
    have hcm' : cap ≤ 9223372036854775807 := by unfold maxLen at hcm; omega
    have hlm : len ≤ m := by rw [hm]; split <;> omega
    rw [cellsRecord] at hx
    have hex : ∀ i, i < len → ∃ sg : Rc, w.cell? ((a.add (i * 2)).add 0) = some (.string sg.key) ∧ w.cell? ((a.add (i * 2)).add 1) = some (.string sg.dat) ∧ sg.key.size ≤ maxLen ∧ sg.dat.size ≤ maxLen := by
      intro i hi
      obtain ⟨cs', hc, ht⟩ := hx i (by omega)
      obtain ⟨_, _, hcc⟩ := World.cells?_some hc
      obtain ⟨sg, rfl, z1, z2⟩ := open_record ht
      exact ⟨sg, by simpa using hcc 0 (by decide), by simpa using hcc 1 (by decide), z1, z2⟩
    rcases Nat.eq_zero_or_pos len with h0 | h0
    · subst h0
      exact ⟨[], Or.inl ⟨⟨_, _, rfl⟩, rfl⟩, _, cap, rfl, by simp, hcm'⟩
    · obtain ⟨b, off, spot⟩ := a
      have hspot : spot = none := by
        obtain ⟨sg, h1, _⟩ := hex 0 h0
        simpa [Addr.add] using World.cell?_spot h1
      subst hspot
      have hch : ∃ f : Nat → Rc, ∀ i, i < len → w.cell? ⟨b, off + i * 2, none⟩ = some (.string (f i).key) ∧ w.cell? ⟨b, off + i * 2 + 1, none⟩ = some (.string (f i).dat) ∧ (f i).key.size ≤ maxLen ∧ (f i).dat.size ≤ maxLen := by
        have hex' : ∀ i, i < len → ∃ sg : Rc, w.cell? ⟨b, off + i * 2, none⟩ = some (.string sg.key) ∧ w.cell? ⟨b, off + i * 2 + 1, none⟩ = some (.string sg.dat) ∧ sg.key.size ≤ maxLen ∧ sg.dat.size ≤ maxLen := by
          intro i hi
          obtain ⟨sg, q1, q2, z⟩ := hex i hi
          rw [Addr.add_lit, Addr.add_lit] at q1 q2
          exact ⟨sg, q1, q2, z⟩
        refine ⟨fun i => if hi : i < len then Classical.choose (hex' i hi) else ⟨⟨#[]⟩, ⟨#[]⟩⟩, fun i hi => ?_⟩
        have hc := Classical.choose_spec (hex' i hi)
        simp only [hi, dite_true]
        exact hc
      obtain ⟨f, hf⟩ := hch
      refine ⟨(List.range len).map f, Or.inr ⟨b, off, cap, by simp, fun i hi => ?_⟩, some ⟨b, off, none⟩, cap, by simp, by simpa using hlc, hcm'⟩
      simp only [List.length_map, List.length_range] at hi
      simp only [List.getElem_map, List.getElem_range]
      exact hf i hi
theorem open_rcs {v : Value} {d : DataW H} {p : List MemPlace} (hv : v.cells = #[v]) (h : DataW.Trod enc Tryz.prog w base spare held 22 v d p) (hsz : (d.weights Tryz.prog 22).all (· ≤ reachBytes) = true) (hlt : ∀ x ∈ p, x.block < w.heap.size) :
    ∃ l : List Rc, RcsC w v l ∧ l.length ≤ 9223372036854775807 := by
  obtain ⟨fuel, hf⟩ := h
  rw [hv] at hf
  obtain ⟨l, hl⟩ := open_rcsF hf
  exact ⟨l, hl, hl.len⟩
end
end Go.Proofs.YtocphdikppeijaaGreat
