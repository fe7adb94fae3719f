/- What any text tells of a client, and any records of a ledger: pure. -/
import Derived.Test.YtmcafgmjfgfaeaaDoorLr25
import Derived.Test.YtmcafgmjfgfaeaaDoorLr26
import Derived.Test.YtmcafgmjfgfaeaaDoorLr28
namespace Go.Proofs.YtmcafgmjfgfaeaaDoor
open Go.RowKit
set_option linter.unusedSimpArgs false
set_option linter.unusedVariables false

theorem nxs_step (s : ByteArray) (j : Nat) (h : (nxs s (j + 1)).1.2 = true) : (nxs s j).1.2 = true ∧ ∃ m nx, rdInt s (nxs s j).1.1 = .ok (m, nx) ∧ (m : Int) ≤ 1099511627776 ∧ nxs s (j + 1) = ((nx, true), (nxs s j).2 ++ [(m : Int)]) := by
  have e : nxs s (j + 1) = (((nxt s (nxs s j).1).2.1, (nxt s (nxs s j).1).2.2), (nxs s j).2 ++ [(nxt s (nxs s j).1).1]) := rfl
  rw [e] at h ⊢
  simp only at h
  unfold nxt at h ⊢
  cases hr : rdInt s (nxs s j).1.1 with
  | error er => rw [hr] at h; cases h
  | ok q =>
    obtain ⟨m, nx⟩ := q
    rw [hr] at h
    simp only [Bool.and_eq_true, decide_eq_true_eq] at h
    refine ⟨h.1, m, nx, rfl, h.2, ?_⟩
    simp only
    rw [h.1, decide_eq_true h.2]
    rfl
theorem nxs_stop (s : ByteArray) (j : Nat) (h : (nxs s (j + 1)).1.2 = false) (h0 : (nxs s j).1.2 = true) : (∃ er, rdInt s (nxs s j).1.1 = .error er) ∨ ∃ m nx, rdInt s (nxs s j).1.1 = .ok (m, nx) ∧ 1099511627776 < (m : Int) := by
  have e : nxs s (j + 1) = (((nxt s (nxs s j).1).2.1, (nxt s (nxs s j).1).2.2), (nxs s j).2 ++ [(nxt s (nxs s j).1).1]) := rfl
  rw [e] at h
  simp only at h
  unfold nxt at h
  cases hr : rdInt s (nxs s j).1.1 with
  | error er => exact Or.inl ⟨er, rfl⟩
  | ok q =>
    obtain ⟨m, nx⟩ := q
    rw [hr] at h
    simp only [h0, Bool.true_and, decide_eq_false_iff_not] at h
    exact Or.inr ⟨m, nx, rfl, by omega⟩
theorem nxs_off (s : ByteArray) {j k : Nat} (hjk : j ≤ k) (h : (nxs s j).1.2 = false) : (nxs s k).1.2 = false := by
  induction k with
  | zero => obtain rfl : j = 0 := by omega
            exact h
  | succ k ih =>
    by_cases e : j = k + 1
    · rw [← e]; exact h
    · have h1 := ih (by omega)
      cases h2 : (nxs s (k + 1)).1.2
      · rfl
      · have := (nxs_step s k h2).1
        rw [h1] at this
        cases this
theorem encs_snoc (ms : List Int) (x : Int) : encs (ms ++ [x]) = encs ms ++ enc x.toNat := by
  unfold encs
  rw [List.flatMap_append]
  simp
/-- Numbers that are read are just their bytes. -/
theorem rd_canon {s : ByteArray} {a m nx : Nat} (h : rdInt s a = .ok (m, nx)) : nx = a + (enc m).length ∧ (s.data.toList.drop a).take (enc m).length = enc m ∧ m ≤ 9007199254740992 := by
  rw [rdInt_list] at h
  cases hp : rdP 8 0 0 (s.data.toList.drop a) with
  | error er => rw [hp] at h; cases h
  | ok q =>
    obtain ⟨m', c⟩ := q
    rw [hp] at h
    have h' : (Except.ok (m', a + c) : Except Int (Nat × Nat)) = .ok (m, nx) := h
    simp only [Except.ok.injEq, Prod.mk.injEq] at h'
    obtain ⟨rfl, rfl⟩ := h'
    obtain ⟨h1, h2, h3, h4⟩ := rdP_canon0 hp
    subst h1
    exact ⟨rfl, h2, h4⟩
theorem nxs_canon (s : ByteArray) : ∀ j, (nxs s j).1.2 = true → s.data.toList.take (nxs s j).1.1 = encs (nxs s j).2 ∧ ∀ x ∈ (nxs s j).2, 0 ≤ x ∧ x ≤ 1099511627776
  | 0, _ => ⟨rfl, fun x hx => by cases hx⟩
  | j + 1, h => by
    obtain ⟨h0, m, nx, h1, h2, h3⟩ := nxs_step s j h
    obtain ⟨c1, c2⟩ := nxs_canon s j h0
    obtain ⟨d1, d2, d3⟩ := rd_canon h1
    rw [h3]
    refine ⟨?_, fun x hx => ?_⟩
    · show s.data.toList.take nx = encs ((nxs s j).2 ++ [(m : Int)])
      rw [encs_snoc, d1, List.take_add, c1, d2, Int.toNat_natCast]
    · rcases List.mem_append.1 hx with hx | hx
      · exact c2 x hx
      · rw [List.mem_singleton.1 hx]; omega
theorem nums_fld (k : Kt) : ∀ g, g < 5 → nums k g = (List.range (3 + 2 * g)).map (fun i => k.n (fld g i))
  | 0, _ => rfl
  | 1, _ => rfl
  | 2, _ => rfl
  | 3, _ => rfl
  | 4, _ => rfl
theorem nums_kOf {g : Nat} (hg : g ≤ 4) {ms : List Int} (hl : ms.length = 3 + 2 * g) (t : ByteArray) : nums (kOf g ms t) g = ms := by
  rw [nums_fld _ g (by omega)]
  apply List.ext_getElem
  · simp [hl]
  · intro i h1 h2
    have hi : i < 3 + 2 * g := by rw [← hl]; exact h2
    rw [List.getElem_map, List.getElem_range]
    show (match idx g (fld g i) with | some i => ms.getD i 0 | none => 0) = _
    rw [idx_fld1 g (by omega) i (by omega) hi]
    simp [h2]
/-- Such as a value can tell. -/
structure OkK (g : Nat) (k : Kt) : Prop where
  num : ∀ f, f < 11 → 0 ≤ k.n f ∧ k.n f ≤ 1099511627776
  none : ∀ a, g + 2 ≤ a → a ≤ 5 → k.n a = 0 ∧ k.n (a + 4) = 0
theorem kOf_ok {g : Nat} {ms : List Int} (h : ∀ x ∈ ms, 0 ≤ x ∧ x ≤ 1099511627776) (t : ByteArray) : OkK g (kOf g ms t) := by
  have hd : ∀ i, 0 ≤ ms.getD i 0 ∧ ms.getD i 0 ≤ 1099511627776 := fun i => by
    rw [List.getD_eq_getElem?_getD]
    cases e : ms[i]? with
    | none => simp
    | some x => exact h x (List.mem_of_getElem? e)
  refine ⟨fun f hf => ?_, fun a h1 h2 => ⟨?_, ?_⟩⟩
  · show 0 ≤ (match idx g f with | some i => ms.getD i 0 | none => 0) ∧ (match idx g f with | some i => ms.getD i 0 | none => 0) ≤ 1099511627776
    cases idx g f with
    | none => simp
    | some i => exact hd i
  · show (match idx g a with | some i => ms.getD i 0 | none => 0) = 0
    have : idx g a = none := by
      unfold idx
      rw [if_neg (by omega), if_neg (by omega), if_neg (by omega), if_pos (by omega), if_neg (by omega)]
    rw [this]
  · show (match idx g (a + 4) with | some i => ms.getD i 0 | none => 0) = 0
    have : idx g (a + 4) = none := by
      unfold idx
      rw [if_neg (by omega), if_neg (by omega), if_neg (by omega), if_neg (by omega), if_pos (by omega), if_neg (by omega)]
    rw [this]
theorem ktR_canon {s : ByteArray} {g : Nat} (hg : g ≤ 4) (h : (ktR s g).2 = true) : s = ⟨(valB (ktR s g).1 g).toArray⟩ ∧ OkK g (ktR s g).1 := by
  unfold ktR at h ⊢
  cases ht : rdText s (nxs s (3 + 2 * g)).1.1 with
  | error er => rw [ht] at h; cases h
  | ok q =>
    obtain ⟨t, nx⟩ := q
    rw [ht] at h
    simp only [Bool.and_eq_true, beq_iff_eq] at h
    obtain ⟨hf, hn⟩ := h
    obtain ⟨c1, c2⟩ := nxs_canon s _ hf
    refine ⟨?_, kOf_ok c2 t⟩
    have hat := nxs_at s (3 + 2 * g)
    have hl := nxs_len s (3 + 2 * g)
    generalize (nxs s (3 + 2 * g)).1.1 = at_ at *
    generalize (nxs s (3 + 2 * g)).2 = ms at *
    unfold rdText at ht
    cases hr : rdInt s at_ with
    | error er => rw [hr] at ht; cases ht
    | ok q2 =>
      obtain ⟨n, m⟩ := q2
      rw [hr] at ht
      simp only at ht
      split at ht
      · cases ht
      split at ht
      · cases ht
      simp only [Except.ok.injEq, Prod.mk.injEq] at ht
      obtain ⟨ht, hnx⟩ := ht
      obtain ⟨d1, d2, d3⟩ := rd_canon hr
      have hlen : s.data.toList.length = s.size := by rw [Array.length_toList]; rfl
      have htl : t.data.toList = s.data.toList.drop m := by
        rw [← ht, ByteArray.data_extract, Array.toList_extract]
        simp only [List.extract]
        rw [List.take_of_length_le (by rw [List.length_drop, hlen]; omega)]
      have hts : t.size = n := by
        rw [← ht, ByteArray.size_extract]; omega
      apply ByteArray.ext
      apply Array.toList_inj.1
      show s.data.toList = valB (kOf g ms t) g
      rw [valB_nums, nums_kOf hg hl]
      show s.data.toList = encs ms ++ (enc t.size ++ t.data.toList)
      rw [hts, htl, d1, ← c1]
      conv => lhs; rw [← List.take_append_drop at_ s.data.toList, ← List.take_append_drop (enc n).length (s.data.toList.drop at_), d2, List.drop_drop]
/-- A value that may be, and a record. -/
def okV (g : Nat) (s : ByteArray) : Bool := (ktR s g).2 && soundB (ktR s g).1
theorem okV_sound {g : Nat} {s : ByteArray} (h : okV g s = true) : (ktR s g).2 = true ∧ soundB (ktR s g).1 = true := by
  unfold okV at h
  simpa using h
theorem sound_is {k : Kt} (h : soundB k = true) : (k.n 6 ≤ k.n 2 ∧ k.n 7 ≤ k.n 3 ∧ k.n 8 ≤ k.n 4 ∧ k.n 9 ≤ k.n 5) ∧ k.n 1 ≤ k.n 0 ∧ k.reply.size ≤ 256 ∧ (k.n 10 = 0 → 0 ≤ k.n 10 → k.reply = ⟨#[]⟩) := by
  have h' := of_decide_eq_true h
  obtain ⟨h1, h2, h3, h4⟩ := h'
  refine ⟨h1, h2, h3, fun e _ => ?_⟩
  rcases h4 with h4 | h4
  · omega
  · apply ByteArray.ext
    apply Array.toList_inj.1
    rw [ByteArray.toList_eq] at h4
    exact h4
theorem okV_part {g : Nat} {s : ByteArray} (hg : g ≤ 4) (h : okV g s = true) {a b : Nat} (p : Part a b) : 0 ≤ (ktR s g).1.n b ∧ (ktR s g).1.n b ≤ (ktR s g).1.n a ∧ (ktR s g).1.n a ≤ 1099511627776 := by
  obtain ⟨h1, h2⟩ := okV_sound h
  have hk := (ktR_canon hg h1).2
  obtain ⟨⟨s2, s3, s4, s5⟩, s0, _⟩ := sound_is h2
  have hb : b < 11 := by rcases p with ⟨rfl, rfl⟩ | ⟨p1, p2, rfl⟩ <;> omega
  have ha : a < 11 := by rcases p with ⟨rfl, rfl⟩ | ⟨p1, p2, rfl⟩ <;> omega
  refine ⟨(hk.num b hb).1, ?_, (hk.num a ha).2⟩
  rcases p with ⟨rfl, rfl⟩ | ⟨p1, p2, rfl⟩
  · exact s0
  · rcases (show a = 2 ∨ a = 3 ∨ a = 4 ∨ a = 5 by omega) with rfl | rfl | rfl | rfl
    · exact s2
    · exact s3
    · exact s4
    · exact s5
/-- Accounts that keep all but the totals' bound. -/
structure Wk (l : List Kt) : Prop where
  pos : 0 < l.length
  len : l.length ≤ 16
  held : ∀ i, i < l.length → ∀ a h, Part a h → 0 ≤ (kAt l i).n h ∧ (kAt l i).n h ≤ (kAt l i).n a ∧ (kAt l i).n a ≤ 1099511627776
theorem Wk.sums {l : List Kt} (H : Wk l) {a h : Nat} (p : Part a h) : ∀ k, k ≤ l.length → 0 ≤ tot (l.take k) a ∧ tot (l.take k) a ≤ 1099511627776 * k
  | 0, _ => ⟨by show (0 : Int) ≤ tot [] a; simp [tot], by show tot [] a ≤ _; simp [tot]⟩
  | k + 1, hk => by
    have h1 := H.sums p k (by omega)
    have h2 := H.held k (by omega) a h p
    rw [tot_take l k a (by omega)]
    refine ⟨by omega, ?_⟩
    push_cast
    omega
theorem Wk.all {l : List Kt} (H : Wk l) {a h : Nat} (p : Part a h) : 0 ≤ tot l a ∧ tot l a ≤ 17592186044416 := by
  have := H.sums p l.length (Nat.le_refl _)
  rw [List.take_length] at this
  have h2 := H.len
  omega
def ofL (g : Nat) (L : List Rc) : List Kt := L.map fun r => (ktR r.dat g).1
theorem ofL_len (g : Nat) (L : List Rc) : (ofL g L).length = L.length := by simp [ofL]
theorem ofL_at (g : Nat) {L : List Rc} {i : Nat} (h : i < L.length) : kAt (ofL g L) i = (ktR L[i].dat g).1 := by
  rw [kAt_eq (by rw [ofL_len]; exact h)]
  simp [ofL]
/-- Each record is its place's. -/
def okR (g i : Nat) (r : Rc) : Bool := okV g r.dat && decide (r.key = keyB i)
def AllR (g : Nat) (L : List Rc) (k : Nat) : Prop := ∀ i (h : i < L.length), i < k → okR g i L[i] = true
theorem okR_is {g i : Nat} {r : Rc} (h : okR g i r = true) : okV g r.dat = true ∧ r.key = keyB i := by
  unfold okR at h
  simpa using h
theorem ofL_wk {g : Nat} (hg : g ≤ 4) {L : List Rc} (h : AllR g L L.length) (h0 : 0 < L.length) (h1 : L.length ≤ 16) : Wk (ofL g L) := by
  refine ⟨by rw [ofL_len]; exact h0, by rw [ofL_len]; exact h1, fun i hi a b p => ?_⟩
  rw [ofL_len] at hi
  rw [ofL_at g hi]
  exact okV_part hg (okR_is (h i hi hi)).1 p
theorem ofL_recs {g : Nat} (hg : g ≤ 4) {L : List Rc} (h : AllR g L L.length) : recs g (ofL g L) = L := by
  apply List.ext_getElem
  · simp [recs, ofL_len]
  · intro i h1 h2
    have e : (recs g (ofL g L))[i] = recOf g i (kAt (ofL g L) i) := by simp [recs]
    rw [e, ofL_at g h2]
    obtain ⟨a, b⟩ := okR_is (h i h2 h2)
    have hc := (ktR_canon hg (okV_sound a).1).1
    unfold recOf
    rw [← hc, ← b]
theorem ofL_inv {g : Nat} (hg1 : 1 ≤ g) (hg : g ≤ 4) {L : List Rc} (h : AllR g L L.length) (h0 : 0 < L.length) (h1 : L.length ≤ 16) (ht : ∀ a b, Part a b → tot (ofL g L) a ≤ 1099511627776) : Inv g (ofL g L) := by
  have W := ofL_wk hg h h0 h1
  have hk : ∀ i, i < (ofL g L).length → OkK g (kAt (ofL g L) i) ∧ soundB (kAt (ofL g L) i) = true := fun i hi => by
    rw [ofL_len] at hi
    rw [ofL_at g hi]
    have := okV_sound (okR_is (h i hi hi)).1
    exact ⟨(ktR_canon hg this.1).2, this.2⟩
  refine ⟨W.pos, W.len, hg1, hg, fun i hi a b p => ⟨(W.held i hi a b p).1, (W.held i hi a b p).2.1⟩, fun i hi a q1 q2 => ((hk i hi).1.none a q1 q2).1, ht, fun i hi => (hk i hi).1.num 10 (by omega), fun i hi => (sound_is (hk i hi).2).2.2.1, fun i hi e => (sound_is (hk i hi).2).2.2.2 e (by omega)⟩
end Go.Proofs.YtmcafgmjfgfaeaaDoor
