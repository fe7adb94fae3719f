/- The document's At; its conditions on a book's numbers beside the program's. -/
import Derived.Test.YtlhfdgeknpmdfaaCaOc
namespace Go.Proofs.Ytlhfdgeknpmdfaa
open Go.RowKit
set_option linter.unusedSimpArgs false
set_option linter.unusedVariables false

def okD (ms : List Int) (j : Nat) : Bool := mayB (oAt ms j) && decide (nAt ms (4 + 6 * j) ≤ 1) && decide (lastP (rdK ms j) < (oAt ms j).pl) && decide (fnd (rdK ms j) (oAt ms j).id < 0)
def GoodD (ms : List Int) : Prop := 2 ≤ ms.length ∧ nAt ms 1 ≤ 64 ∧ (ms.length : Int) = 2 + 6 * nAt ms 1 ∧ (∀ j, j < cntN ms → okD ms j = true) ∧ lastP (rdK ms (cntN ms)) < nAt ms 0
theorem okD_parts {ms : List Int} {j : Nat} (h : okD ms j = true) : mayB (oAt ms j) = true ∧ nAt ms (4 + 6 * j) ≤ 1 ∧ lastP (rdK ms j) < (oAt ms j).pl ∧ fnd (rdK ms j) (oAt ms j).id < 0 := by
  unfold okD at h
  simp only [Bool.and_eq_true, decide_eq_true_eq] at h
  exact ⟨h.1.1.1, h.1.1.2, h.1.2, h.2⟩
theorem lastP_zero (ms : List Int) : lastP (rdK ms 0) = 0 := rfl
theorem lastP_succ (ms : List Int) (k : Nat) : lastP (rdK ms (k + 1)) = (oAt ms k).pl := by rw [rdK_succ, lastP_snoc]
theorem last_nn {ms : List Int} : ∀ k, (∀ j, j < k → lastP (rdK ms j) < (oAt ms j).pl) → 0 ≤ lastP (rdK ms k)
  | 0, _ => by rw [lastP_zero]; exact Int.le_refl _
  | k + 1, h => by
    have := last_nn k (fun j hj => h j (by omega))
    have h2 := h k (by omega)
    rw [lastP_succ]; omega
theorem last_mono {ms : List Int} : ∀ k, (∀ j, j < k → lastP (rdK ms j) < (oAt ms j).pl) → ∀ j, j < k → (oAt ms j).pl ≤ lastP (rdK ms k)
  | 0, _ => fun j hj => by omega
  | k + 1, h => fun j hj => by
    rw [lastP_succ]
    rcases Nat.lt_or_ge j k with h1 | h1
    · have := last_mono k (fun j hj => h j (by omega)) j h1
      have h2 := h k (by omega)
      omega
    · have : j = k := by omega
      rw [this]; exact Int.le_refl _
theorem sd_of {ms : List Int} {j : Nat} (h0 : 0 ≤ nAt ms (4 + 6 * j)) : nAt ms (4 + 6 * j) = sdN (oAt ms j) ↔ nAt ms (4 + 6 * j) ≤ 1 := by
  have e : sdN (oAt ms j) = if (nAt ms (4 + 6 * j) == 0) = true then 0 else 1 := rfl
  rw [e]
  by_cases hz : nAt ms (4 + 6 * j) = 0
  · rw [hz]; simp
  · have : (nAt ms (4 + 6 * j) == 0) = false := by simpa using hz
    rw [this]
    simp only [Bool.false_eq_true, if_false]
    omega
theorem good_iff {ms : List Int} (hf : ∀ i, 0 ≤ nAt ms i) (hl : ms.length ≤ 386) : GoodP ms ↔ GoodD ms := by
  constructor
  · rintro ⟨h1, h2, h3, h4⟩
    have hp : ∀ j, j < cntN ms → okD ms j = true ∧ (oAt ms j).pl < nAt ms 0 := fun j hj => by
      have := h3 j hj
      unfold okP at this
      simp only [Bool.and_eq_true, beq_iff_eq] at this
      obtain ⟨t1, t2, t3, t4⟩ := tk_parts this.2
      refine ⟨?_, t4⟩
      unfold okD
      rw [t1, decide_eq_true ((sd_of (hf _)).1 this.1), decide_eq_true t3, decide_eq_true t2]
      rfl
    refine ⟨h1, by omega, h2, fun j hj => (hp j hj).1, ?_⟩
    cases hc : cntN ms with
    | zero => rw [lastP_zero]; exact h4
    | succ k => rw [lastP_succ]; exact (hp k (by omega)).2
  · rintro ⟨h1, _, h2, h3, h4⟩
    have hq := fun j hj => (okD_parts (h3 j hj)).2.2.1
    have hm := last_mono (cntN ms) hq
    have hn := last_nn (cntN ms) hq
    refine ⟨h1, h2, fun j hj => ?_, by omega⟩
    obtain ⟨t1, t2, t3, t4⟩ := okD_parts (h3 j hj)
    have := hm j hj
    unfold okP tkB
    rw [t1, decide_eq_true t4, decide_eq_true t3, decide_eq_true (show (oAt ms j).pl < nAt ms 0 by omega)]
    simp only [Bool.and_true, beq_iff_eq]
    exact (sd_of (hf _)).2 t2
theorem nm_more {l : List UInt8} {ms : List Int} (h : nmF 386 l = some ms) : nmF 401 l = some ms := by
  obtain ⟨h1, h2, h3⟩ := nmF_canon 386 l ms h
  rw [h1]; exact nmF_encs 401 ms (by omega) h3
theorem nm_less {l : List UInt8} {ms : List Int} (h : nmF 401 l = some ms) (hl : ms.length ≤ 386) : nmF 386 l = some ms := by
  obtain ⟨h1, h2, h3⟩ := nmF_canon 401 l ms h
  rw [h1]; exact nmF_encs 386 ms hl h3
/-- A text is a book's just if it is one by the document. -/
theorem ofOk_iff (s : ByteArray) : OfOk s ↔ ∃ ms, nmF 401 s.data.toList = some ms ∧ GoodD ms := by
  constructor
  · rintro ⟨ms, h1, h2⟩
    obtain ⟨hl, hf⟩ := nm_fit h1
    exact ⟨ms, nm_more h1, (good_iff (fun i => (hf i).1) hl).1 h2⟩
  · rintro ⟨ms, h1, h2⟩
    have hl : ms.length ≤ 386 := by
      obtain ⟨_, q1, q2, _⟩ := h2
      omega
    have h3 : nm s = some ms := nm_less h1 hl
    obtain ⟨_, hf⟩ := nm_fit h3
    exact ⟨ms, h3, (good_iff (fun i => (hf i).1) hl).2 h2⟩

def hasI (l : List Od) (x : Int) : Prop := ∃ o ∈ l, o.id = x
set_option maxHeartbeats 4000000 in
set_option maxRecDepth 100000 in
theorem refAtC_calls (lv : Value) (l : List Od) (nx x : Int) (w : World) (h : Ods w lv l) (hl : l.length ≤ 1000) :
    Calls Try.prog 30 #[.agg #[lv, .int .i64 nx], .int .i64 x] w fun e w' => ∃ q : Int, e = .returned (.int .i64 q) ∧ (0 ≤ q ↔ hasI l x) ∧ Below w.heap.size w w' := by
  obtain ⟨a, cap, rfl, hc⟩ := h
  obtain ⟨W1, hW1, X1, B1⟩ : ∃ W1, w.alloc (.cells #[.slice a l.length cap, .int .i64 nx] 34) = W1 ∧ Blk W1 w.heap.size #[.slice a l.length cap, .int .i64 nx] 34 ∧ Below w.heap.size w W1 := ⟨_, rfl, blk_new _ _ _ _ rfl, by go_grown⟩
  have c0 : W1.cell? ⟨w.heap.size, 0, none⟩ = some (.slice a l.length cap) := X1.cell rfl
  have HC : Hid _ := hc
  clear hc X1
  go_enter Try.func30, Try.ntmps30
  go_wp2_with fail
  go_loopw [5] (fun i wr => ∃ k : Nat, k ≤ l.length ∧ i = .int .i64 k ∧ Hid (∀ o ∈ l.take k, o.id ≠ x) ∧ wr = W1) (fun i _ => l.length - (intOf i).toNat)
  case atStart => exact ⟨0, Nat.zero_le _, rfl, by show ∀ o ∈ _, _; simp, rfl⟩
  case round =>
    obtain ⟨k, hk, rfl, hall, rfl⟩ := hrel
    by_cases hlt : k < l.length
    · have hd : decide ((k : Int) < (l.length : Int)) = true := by simp only [decide_eq_true_eq]; omega
      have hd' : (k : Int) < (l.length : Int) := by omega
      obtain ⟨g, off, rfl, m0⟩ : ∃ g off, a = some ⟨g, off, none⟩ ∧ wr.cell? ⟨g, off + k * 6, none⟩ = some (.int .i64 l[k].id) := by
        rcases HC.out with h0 | ⟨g, off, e, hx⟩
        · rw [h0] at hlt; simp at hlt
        · exact ⟨g, off, e, keepY B1 (hx k l[k] 0 _ (List.getElem?_eq_getElem hlt) rfl)⟩
      have HT : Hid (l[k].id ≠ x → ∀ o ∈ l.take (k + 1), o.id ≠ x) := fun hn o ho => by
        rw [List.take_succ_eq_append_getElem hlt, List.mem_append, List.mem_singleton] at ho
        rcases ho with ho | rfl
        · exact hall.out o ho
        · exact hn
      have HM : Hid (l[k] ∈ l) := List.getElem_mem hlt
      generalize l[k] = m at *
      generalize hid : m.id = y at *
      have HID : Hid _ := hid
      clear hid
      by_cases hkk : y = x
      · have d1 : (y == x) = true := by simpa using hkk
        have HK : Hid _ := hkk
        clear hkk
        go_wp2
        go_ret
        exact ⟨k, rfl, ⟨fun _ => ⟨m, HM.out, HID.out.trans HK.out⟩, fun _ => by omega⟩, B1⟩
      · have d1 : (y == x) = false := by simpa using hkk
        have HK : Hid (y ≠ x) := hkk
        clear hkk
        go_wp2
        refine ⟨⟨k + 1, by omega, by norm_cast, HT.out HK.out, by trivial⟩, ?_⟩
        simp [intOf]; omega
    · have hd : decide ((k : Int) < (l.length : Int)) = false := by simp only [decide_eq_false_iff_not]; omega
      have hd' : ¬ (k : Int) < (l.length : Int) := by omega
      obtain rfl : k = l.length := by omega
      have HA : Hid (∀ o ∈ l, o.id ≠ x) := by have := hall.out; rw [List.take_length] at this; exact this
      clear hall
      go_wp2
      go_ret
      exact ⟨-1, rfl, ⟨fun h => by omega, fun ⟨o, ho, e⟩ => absurd e (HA.out o ho)⟩, B1⟩
end Go.Proofs.Ytlhfdgeknpmdfaa
