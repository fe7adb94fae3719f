/- Where a key stands in a tree: the program's answer. -/
import Derived.Test.YtpcafjbebhcilaaGreatTm24
namespace Go.Proofs.YtpcafjbebhcilaaGreat
open Go.RowKit
set_option linter.unusedSimpArgs false
set_option linter.unusedVariables false
variable {p b x y : Nat} {T : List ByteArray} {S : List (Int × ByteArray)}

set_option maxHeartbeats 4000000 in
set_option maxRecDepth 100000 in
theorem closure_calls (i k q1 q2 g off cap n : Nat) (rk key : ByteArray) (w : World) (hin : i < n) (c1 : w.cell? ⟨q1, 0, none⟩ = some (.pointer (some ⟨k, 0, none⟩))) (c2 : w.cell? ⟨q2, 0, none⟩ = some (.string key)) (c3 : w.cell? ⟨k, 1, none⟩ = some (.slice (some ⟨g, off, none⟩) n cap)) (c4 : w.cell? ⟨g, off + i * 2, none⟩ = some (.string rk)) :
    Calls Tryz.prog 69 #[.int .i64 i, .pointer (some ⟨q1, 0, none⟩), .pointer (some ⟨q2, 0, none⟩)] w fun e w' => e = .returned (.bool (!lsB rk key)) ∧ Below w.heap.size w w' := by
  have hd : Below w.heap.size w w.drew := (Below.refl _ _).drew
  have hin' : (i : Int) < (n : Int) := by omega
  have hfl := lsB_flip key rk
  go_enter Tryz.func69, Tryz.ntmps69
  go_wp2_with fail
  go_region
  go_wp2
  go_ret
  exact ⟨rfl, hd⟩
set_option maxHeartbeats 4000000 in
set_option maxRecDepth 100000 in
theorem search_calls (n : Nat) (q : Nat → Bool) (u1 u2 : Value) (w : World) (hn : n ≤ 4096) (hm : ∀ a c, a ≤ c → c < n → q a = true → q c = true)
    (hf : ∀ i wx, i < n → Below w.heap.size w wx → Calls Tryz.prog 69 #[.int .i64 (i : Nat), u1, u2] wx fun e w' => e = .returned (.bool (q i)) ∧ Below wx.heap.size wx w') :
    Calls Tryz.prog 68 #[.int .i64 n, .func (.func 69) #[] #[u1, u2]] w fun e w' => ∃ r : Nat, e = .returned (.int .i64 r) ∧ r ≤ n ∧ (∀ a, a < r → q a = false) ∧ (∀ a, r ≤ a → a < n → q a = true) ∧ Below w.heap.size w w' := by
  have HF : Hid _ := hf
  have HM : Hid _ := hm
  clear hf hm
  go_enter Tryz.func68, Tryz.ntmps68
  go_wp2_with fail
  go_loopw [5, 6] (fun i j wr => ∃ a c : Nat, i = .int .i64 a ∧ j = .int .i64 c ∧ a ≤ c ∧ c ≤ n ∧ (∀ z, z < a → q z = false) ∧ (∀ z, c ≤ z → z < n → q z = true) ∧ Below w.heap.size w wr) (fun i j _ => (intOf j - intOf i).toNat)
  case atStart => exact ⟨0, n, rfl, rfl, Nat.zero_le _, Nat.le_refl _, fun z hz => by omega, fun z h1 h2 => by omega, Below.refl _ _⟩
  case round =>
    obtain ⟨a, c, rfl, rfl, hac, hcn, hlo, hhi, hb⟩ := hrel
    by_cases hlt : a < c
    · have hd : decide ((a : Int) < (c : Int)) = true := by simp only [decide_eq_true_eq]; omega
      have hmid : ((a : Int) + (c : Int)) / 2 = (((a + c) / 2 : Nat) : Int) := by omega
      obtain ⟨m, hmm⟩ : ∃ m, (a + c) / 2 = m := ⟨_, rfl⟩
      have hma : a ≤ m := by omega
      have hmc : m < c := by omega
      rw [hmm] at hmid
      have HC : Hid _ := HF.out m wr (by omega) hb
      cases hq : q m
      · rw [hq] at HC
        go_wp2_with fail
        refine Calls.mono HC.out ?_
        rintro e w2 ⟨rfl, b2⟩
        go_wp2
        refine ⟨⟨m + 1, c, by norm_cast, rfl, by omega, hcn, fun z hz => ?_, hhi, hb.trans (b2.mono hb.size)⟩, ?_⟩
        · cases hz2 : q z
          · rfl
          · rw [HM.out z m (by omega) (by omega) hz2] at hq; cases hq
        · simp [intOf]; omega
      · rw [hq] at HC
        go_wp2_with fail
        refine Calls.mono HC.out ?_
        rintro e w2 ⟨rfl, b2⟩
        go_wp2
        refine ⟨⟨a, m, rfl, rfl, by omega, by omega, hlo, fun z h1 h2 => HM.out m z h1 h2 hq, hb.trans (b2.mono hb.size)⟩, ?_⟩
        simp [intOf]; omega
    · have hd : decide ((a : Int) < (c : Int)) = false := by simp only [decide_eq_false_iff_not]; omega
      obtain rfl : a = c := by omega
      go_wp2
      go_ret
      exact ⟨a, rfl, hcn, hlo, hhi, hb⟩
end Go.Proofs.YtpcafjbebhcilaaGreat

namespace Go.Proofs.YtpcafjbebhcilaaGreat
open Go.RowKit
set_option linter.unusedSimpArgs false
set_option linter.unusedVariables false
variable {p b x y : Nat} {T : List ByteArray} {S : List (Int × ByteArray)}

/-- Rising keys. -/
def Rising (l : List Rc) : Prop := ∀ a c (h : a < c) (hc : c < l.length), lsB (l[a]'(Nat.lt_trans h hc)).key l[c].key = true
theorem less_trans : ∀ (u v z : List UInt8), Op.bytesLess u v = true → Op.bytesLess v z = true → Op.bytesLess u z = true
  | [], [], z, h, _ => by simp [Op.bytesLess] at h
  | [], b :: v, [], _, h => by simp [Op.bytesLess] at h
  | [], b :: v, c :: z, _, _ => by simp [Op.bytesLess]
  | a :: u, [], z, h, _ => by simp [Op.bytesLess] at h
  | a :: u, b :: v, [], _, h => by simp [Op.bytesLess] at h
  | a :: u, b :: v, c :: z, h1, h2 => by
    have ih := less_trans u v z
    simp only [Op.bytesLess, Bool.or_eq_true, Bool.and_eq_true, decide_eq_true_eq, beq_iff_eq] at h1 h2 ⊢
    rcases h1 with h1 | ⟨rfl, h1⟩
    · rcases h2 with h2 | ⟨rfl, h2⟩
      · left; rw [UInt8.lt_iff_toNat_lt] at *; omega
      · left; exact h1
    · rcases h2 with h2 | ⟨rfl, h2⟩
      · left; exact h2
      · right; exact ⟨rfl, ih h1 h2⟩
theorem less_irr : ∀ (u : List UInt8), Op.bytesLess u u = false
  | [] => rfl
  | a :: u => by
    have := less_irr u
    simp only [Op.bytesLess, this, Bool.and_false, Bool.or_false, decide_eq_false_iff_not]
    rw [UInt8.lt_iff_toNat_lt]; omega
theorem lsB_trans {a b c : ByteArray} (h : lsB a b = true) (k : lsB b c = true) : lsB a c = true := less_trans _ _ _ h k
theorem lsB_irr (a : ByteArray) : lsB a a = false := less_irr _
theorem lsB_flip' (a b : ByteArray) (h : lsB a b = false) (hn : a ≠ b) : lsB b a = true := by
  have e := lsB_flip a b
  have h1 : Op.bytesLess a.toList b.toList = false := h
  have h2 : (a.toList == b.toList) = false := by
    rw [strEq]; exact decide_eq_false hn
  rw [h1, h2] at e
  simpa using e.symm
theorem riseF_rising : ∀ (l : List Rc) (last : ByteArray), riseF last l = 0 → (∀ c (hc : c < l.length), lsB last l[c].key = true) ∧ Rising l := by
  intro l
  induction l with
  | nil => intro last _; exact ⟨fun c hc => by simp at hc, fun a c h hc => by simp at hc⟩
  | cons m l ih =>
    intro last h
    simp only [riseF] at h
    split at h
    · omega
    · split at h
      · rename_i hb hl
        obtain ⟨h1, h2⟩ := ih m.key h
        refine ⟨fun c hc => ?_, fun a c hac hc => ?_⟩
        · cases c with
          | zero => exact hl
          | succ c => exact lsB_trans hl (h1 c (by simpa using hc))
        · cases c with
          | zero => omega
          | succ c =>
            cases a with
            | zero => exact h1 c (by simpa using hc)
            | succ a => exact h2 a c (by omega) (by simpa using hc)
      · omega
theorem rising_of {l : List Rc} (h : riseR l = 0) : Rising l := by
  unfold riseR at h
  split at h
  · omega
  · exact (riseF_rising l _ h).2
/-- Where a key stands, or would stand. -/
structure Spot (l : List Rc) (key : ByteArray) (r : Nat) : Prop where
  le : r ≤ l.length
  lo : ∀ a (h : a < l.length), a < r → lsB l[a].key key = true
  hi : ∀ a (h : a < l.length), r ≤ a → lsB l[a].key key = false
def hasAt (l : List Rc) (r : Nat) (key : ByteArray) : Bool := match l[r]? with | some m => decide (m.key = key) | none => false

set_option maxHeartbeats 4000000 in
set_option maxRecDepth 100000 in
theorem find_calls (k : Nat) (lv dv bv : Value) (l : List Rc) (key : ByteArray) (w : World) (hX : Blk w k #[bv, lv, dv] 64) (hr : Rcs w lv l) (hl : l.length ≤ 4096) (hri : Rising l) :
    Calls Tryz.prog 43 #[.pointer (some ⟨k, 0, none⟩), .string key] w fun e w' => ∃ r : Nat, e = .returned (.tuple #[.int .i64 r, .bool (hasAt l r key)]) ∧ Spot l key r ∧ Below w.heap.size w w' := by
  obtain ⟨a, cap, rfl⟩ := hr.len
  obtain ⟨W1, hW1, X1, X2, B1, Z1⟩ : ∃ W1, ((w.alloc (.cells #[.pointer (some ⟨k, 0, none⟩)] 25)).alloc (.cells #[.string key] 9)) = W1 ∧ Blk W1 w.heap.size #[.pointer (some ⟨k, 0, none⟩)] 25 ∧ Blk W1 (w.heap.size + 1) #[.string key] 9 ∧ Below w.heap.size w W1 ∧ W1.heap.size = w.heap.size + 2 :=
    ⟨_, rfl, (blk_new _ _ _ _ rfl).alloc _, blk_new _ _ _ _ (by simp), by go_grown, by simp⟩
  have XT := hX.below B1
  have hr1 := hr.below B1
  have c0 : W1.cell? ⟨w.heap.size, 0, none⟩ = some (.pointer (some ⟨k, 0, none⟩)) := X1.cell rfl
  have c9 : W1.cell? ⟨w.heap.size + 1, 0, none⟩ = some (.string key) := X2.cell rfl
  have c1 : W1.cell? ⟨k, 1, none⟩ = some (.slice a l.length cap) := XT.cell rfl
  have hcl : ∀ i wx (hi : i < l.length), Below W1.heap.size W1 wx → Calls Tryz.prog 69 #[.int .i64 (i : Nat), .pointer (some ⟨w.heap.size, 0, none⟩), .pointer (some ⟨w.heap.size + 1, 0, none⟩)] wx fun e w' => e = .returned (.bool (!lsB (l[i]).key key)) ∧ Below wx.heap.size wx w' := fun i wx hi hb => by
    rcases hr1 with ⟨_, h0⟩ | ⟨g, off, c, e, hx⟩
    · rw [h0] at hi; simp at hi
    · simp only [Value.slice.injEq] at e
      obtain ⟨rfl, _, rfl⟩ := e
      exact closure_calls i k _ _ g off cap l.length l[i].key key wx hi (keepCell hb c0) (keepCell hb c9) (keepCell hb c1) (keepCell hb (hx i hi).1)
  have hcl2 : ∀ i wx, i < l.length → Below W1.heap.size W1 wx → Calls Tryz.prog 69 #[.int .i64 (i : Nat), .pointer (some ⟨w.heap.size, 0, none⟩), .pointer (some ⟨w.heap.size + 1, 0, none⟩)] wx fun e w' => e = .returned (.bool (!lsB (l.getD i ⟨⟨#[]⟩, ⟨#[]⟩⟩).key key)) ∧ Below wx.heap.size wx w' := fun i wx hi hb => by
    have e : l.getD i ⟨⟨#[]⟩, ⟨#[]⟩⟩ = l[i] := by rw [List.getD_eq_getElem?_getD, List.getElem?_eq_getElem hi]; rfl
    rw [e]; exact hcl i wx hi hb
  have hmono : ∀ a c, a ≤ c → c < l.length → (!lsB (l.getD a ⟨⟨#[]⟩, ⟨#[]⟩⟩).key key) = true → (!lsB (l.getD c ⟨⟨#[]⟩, ⟨#[]⟩⟩).key key) = true := fun a c hac hc h => by
    have e1 : l.getD a ⟨⟨#[]⟩, ⟨#[]⟩⟩ = l[a]'(by omega) := by rw [List.getD_eq_getElem?_getD, List.getElem?_eq_getElem (by omega)]; rfl
    have e2 : l.getD c ⟨⟨#[]⟩, ⟨#[]⟩⟩ = l[c] := by rw [List.getD_eq_getElem?_getD, List.getElem?_eq_getElem hc]; rfl
    rw [e1] at h
    rw [e2]
    rcases Nat.eq_or_lt_of_le hac with rfl | hlt
    · exact h
    · have h1 := hri a c hlt hc
      cases h2 : lsB l[c].key key
      · rfl
      · rw [lsB_trans h1 h2] at h; exact absurd h (by decide)
  have HSR : Hid _ := search_calls l.length (fun i => !lsB (l.getD i ⟨⟨#[]⟩, ⟨#[]⟩⟩).key key) _ _ W1 hl hmono hcl2
  clear hcl hcl2 hmono
  go_enter Tryz.func43, Tryz.ntmps43
  go_wp2_with fail
  refine Calls.mono HSR.out ?_
  rintro e w2 ⟨r, rfl, hrl, hlo, hhi, b2⟩
  have hsp : Spot l key r := by
    refine ⟨hrl, fun a h har => ?_, fun a h har => ?_⟩
    · have := hlo a har
      simpa [List.getElem?_eq_getElem h] using this
    · have := hhi a har h
      simpa [List.getElem?_eq_getElem h] using this
  have HSP : Hid _ := hsp
  clear hsp hlo hhi
  have c02 := keepCell b2 c0
  have c92 := keepCell b2 c9
  have c12 := keepCell b2 c1
  by_cases hlt : r < l.length
  · have hd : decide ((r : Int) < (l.length : Int)) = true := by simp only [decide_eq_true_eq]; omega
    have hrl' : (r : Int) < (l.length : Int) := by omega
    obtain ⟨g, off, rfl, hc0⟩ : ∃ g off, a = some ⟨g, off, none⟩ ∧ w2.cell? ⟨g, off + r * 2, none⟩ = some (.string l[r].key) := by
      rcases hr1 with ⟨_, h0⟩ | ⟨g, off, c, e, hx⟩
      · rw [h0] at hlt; simp at hlt
      · simp only [Value.slice.injEq] at e
        exact ⟨g, off, e.1, keepCell b2 (hx r hlt).1⟩
    have hhas : hasAt l r key = (l[r].key.toList == key.toList) := by
      unfold hasAt; rw [List.getElem?_eq_getElem hlt, strEq]
    have HH : Hid _ := hhas
    clear hhas
    generalize l[r].key = rk at *
    go_wp2_with fail
    go_region
    go_wp2
    go_ret2
    exact ⟨r, by rw [HH.out]; rfl, HSP.out, (chain B1 b2).drew⟩
  · have hd : decide ((r : Int) < (l.length : Int)) = false := by simp only [decide_eq_false_iff_not]; omega
    have hhas : hasAt l r key = false := by
      unfold hasAt; rw [List.getElem?_eq_none (by omega)]
    have HH : Hid _ := hhas
    clear hhas
    go_wp2_with fail
    go_region
    go_wp2
    go_ret2
    exact ⟨r, by rw [HH.out]; rfl, HSP.out, (chain B1 b2).drew⟩
end Go.Proofs.YtpcafjbebhcilaaGreat
