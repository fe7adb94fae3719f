/- Roots of trees and of records: the program's answers. -/
import Derived.Test.YtocphdikppeijaaGreatLy24
import Derived.Deep.RegionHeld
namespace Go.Proofs.YtocphdikppeijaaGreat
open Go.RowKit
set_option linter.unusedSimpArgs false
set_option linter.unusedVariables false
variable {p b x y : Nat} {T : List ByteArray} {S : List (Int × ByteArray)}

theorem lf_own {w : World} {base : Nat} {v : Value} {ls : List ByteArray} (h : w.ownsRow base 9 1 v ls.length (txC ls)) : Lf w v ls := by
  rcases h.2 with ⟨rfl, h0⟩ | ⟨g, cap, cur, rfl, hb, hg, hc, hm, hs, ht⟩
  · exact ⟨none, 0, by rw [h0], by omega, by omega, fun i hi => by omega⟩
  · refine Lf.mk hc (by unfold maxLen at hm; omega) (fun i hi => ?_)
    obtain ⟨g', cap', e, _, _, hx⟩ := own_at h (by omega)
    simp only [Value.slice.injEq, Option.some.injEq, Addr.mk.injEq] at e
    obtain ⟨⟨rfl, _⟩, _⟩ := e
    rw [Nat.zero_add]
    refine hx i _ ?_
    simp [txC, hi]

set_option maxHeartbeats 4000000 in
set_option maxRecDepth 100000 in
theorem treeRoot_calls (k : Nat) (lv dv : Value) (ls : List ByteArray) (w : World) (hX : Blk w k #[.pointer (some ⟨p, 0, none⟩), lv, dv] 145) (hL : Lf w dv ls) (h : Book w p b x y T S) (hl : ls.length ≤ 4096) (hT : T.length + ls.length + 1 < 1000000) (hz : ∀ s ∈ ls, s.size ≤ 32) :
    Calls Tryz.prog 49 #[.pointer (some ⟨k, 0, none⟩)] w fun e w' => ∃ t T', e = .returned (.string (dig T' (rootT ls.length t))) ∧ Top T' ls t ∧ rootT ls.length t ∈ T' ∧ Grew x y p b T S w (ls.length + 1) T' w' := by
  obtain ⟨a, cap, rfl, hcap⟩ := id hL
  have c0 : w.cell? ⟨k, 0, none⟩ = some (.pointer (some ⟨p, 0, none⟩)) := hX.cell rfl
  have c2 : w.cell? ⟨k, 2, none⟩ = some (.slice a ls.length cap) := hX.cell rfl
  go_enter Tryz.func49, Tryz.ntmps49
  go_wp2_with fail
  have hd : Below w.heap.size w w.drew := (Below.refl _ _).drew
  refine wp_region_held_drew (S := (fun wx => wx.cell? ⟨k, 0, none⟩ = some (.pointer (some ⟨p, 0, none⟩)) ∧ wx.cell? ⟨k, 2, none⟩ = some (.slice a ls.length cap))) (by kernel_rfl) ⟨c0, c2⟩ (fun hS => ?_)
  refine wpAnyH_take (i := 0) (v := (.pointer (some ⟨k, 0, none⟩))) rfl (by kernel_rfl) (by kernel_rfl) (by kernel_rfl) (fun _ _ _ h => h) (Or.inl ⟨by rfl, fun w hS => by obtain ⟨s0, s1⟩ := hS; go_simp⟩) hS ?_
  refine wpAnyH_take (i := 1) (v := (.pointer (some ⟨k, 0, none⟩))) rfl (by kernel_rfl) (by kernel_rfl) (by kernel_rfl) (fun _ _ _ h => h) (Or.inl ⟨by rfl, fun w hS => by obtain ⟨s0, s1⟩ := hS; go_simp⟩) hS ?_
  refine wpAnyH_take (i := 2) (v := (.pointer (some ⟨k, 0, none⟩))) rfl (by kernel_rfl) (by kernel_rfl) (by kernel_rfl) (fun _ _ _ h => h) (Or.inl ⟨by rfl, fun w hS => by obtain ⟨s0, s1⟩ := hS; go_simp⟩) hS ?_
  refine wpAnyH_take (i := 3) (v := (.pointer (some ⟨p, 0, none⟩))) rfl (by kernel_rfl) (by kernel_rfl) (by kernel_rfl) (fun _ _ _ h => h) (Or.inl ⟨by rfl, fun w hS => by obtain ⟨s0, s1⟩ := hS; go_simp⟩) hS ?_
  refine wpAnyH_take (i := 4) (v := (.pointer (some ⟨k, 0, none⟩))) rfl (by kernel_rfl) (by kernel_rfl) (by kernel_rfl) (fun _ _ _ h => h) (Or.inl ⟨by rfl, fun w hS => by obtain ⟨s0, s1⟩ := hS; go_simp⟩) hS ?_
  refine wpAnyH_take (i := 5) (v := (.pointer (some ⟨k, 0, none⟩))) rfl (by kernel_rfl) (by kernel_rfl) (by kernel_rfl) (fun _ _ _ h => h) (Or.inl ⟨by rfl, fun w hS => by obtain ⟨s0, s1⟩ := hS; go_simp⟩) hS ?_
  refine wpAnyH_take (i := 6) (v := (.pointer (some ⟨k, 2, none⟩))) rfl (by kernel_rfl) (by kernel_rfl) (by kernel_rfl) (fun _ _ _ h => h) (Or.inl ⟨by rfl, fun w hS => by obtain ⟨s0, s1⟩ := hS; go_simp⟩) hS ?_
  refine wpAnyH_take (i := 7) (v := (.slice a ls.length cap)) rfl (by kernel_rfl) (by kernel_rfl) (by kernel_rfl) (fun _ _ _ h => h) (Or.inl ⟨by rfl, fun w hS => by obtain ⟨s0, s1⟩ := hS; go_simp⟩) hS ?_
  refine wpAnyH_take (i := 8) (v := (.int .i64 ls.length)) rfl (by kernel_rfl) (by kernel_rfl) (by kernel_rfl) (fun _ _ _ h => h) (Or.inl ⟨by rfl, fun w hS => by obtain ⟨s0, s1⟩ := hS; go_simp⟩) hS ?_
  refine wpAnyH_take (i := 9) (v := (.pointer (some ⟨k, 0, none⟩))) rfl (by kernel_rfl) (by kernel_rfl) (by kernel_rfl) (fun _ _ _ h => h) (Or.inl ⟨by rfl, fun w hS => by obtain ⟨s0, s1⟩ := hS; go_simp⟩) hS ?_
  refine wpAnyH_take (i := 10) (v := (.pointer (some ⟨k, 0, none⟩))) rfl (by kernel_rfl) (by kernel_rfl) (by kernel_rfl) (fun _ _ _ h => h) (Or.inl ⟨by rfl, fun w hS => by obtain ⟨s0, s1⟩ := hS; go_simp⟩) hS ?_
  refine wpAnyH_take (i := 11) (v := (.pointer (some ⟨k, 0, none⟩))) rfl (by kernel_rfl) (by kernel_rfl) (by kernel_rfl) (fun _ _ _ h => h) (Or.inl ⟨by rfl, fun w hS => by obtain ⟨s0, s1⟩ := hS; go_simp⟩) hS ?_
  refine wpAnyH_take (i := 12) (v := (.pointer (some ⟨p, 0, none⟩))) rfl (by kernel_rfl) (by kernel_rfl) (by kernel_rfl) (fun _ _ _ h => h) (Or.inl ⟨by rfl, fun w hS => by obtain ⟨s0, s1⟩ := hS; go_simp⟩) hS ?_
  refine wpAnyH_take (i := 13) (v := (.pointer (some ⟨k, 0, none⟩))) rfl (by kernel_rfl) (by kernel_rfl) (by kernel_rfl) (fun _ _ _ h => h) (Or.inl ⟨by rfl, fun w hS => by obtain ⟨s0, s1⟩ := hS; go_simp⟩) hS ?_
  refine wpAnyH_take (i := 14) (v := (.pointer (some ⟨k, 0, none⟩))) rfl (by kernel_rfl) (by kernel_rfl) (by kernel_rfl) (fun _ _ _ h => h) (Or.inl ⟨by rfl, fun w hS => by obtain ⟨s0, s1⟩ := hS; go_simp⟩) hS ?_
  refine wpAnyH_take (i := 15) (v := (.pointer (some ⟨k, 2, none⟩))) rfl (by kernel_rfl) (by kernel_rfl) (by kernel_rfl) (fun _ _ _ h => h) (Or.inl ⟨by rfl, fun w hS => by obtain ⟨s0, s1⟩ := hS; go_simp⟩) hS ?_
  refine wpAnyH_take (i := 16) (v := (.slice a ls.length cap)) rfl (by kernel_rfl) (by kernel_rfl) (by kernel_rfl) (fun _ _ _ h => h) (Or.inl ⟨by rfl, fun w hS => by obtain ⟨s0, s1⟩ := hS; go_simp⟩) hS ?_
  refine wpAnyH_ready (rs := [17]) (by kernel_rfl) (by simp) ?_
  refine AllReadyH.cons rfl (fun K hK => ?_) AllReadyH.nil
  go_simp
  refine (topOf_calls ls.length ls _ T _ rfl hl (hL.below hd) (h.below hd) (by omega) hz).mono ?_
  rintro e w2 ⟨t, T1, rfl, t1, G1⟩
  have l1 := G1.len
  have hB0 := h.below hd
  refine hK.out _ _ ⟨keepCell2 hB0 G1.off hS.1, keepCell2 hB0 G1.off hS.2⟩ (fun hS => ?_)
  clear hK
  refine wpAnyH_ready (rs := [18]) (by kernel_rfl) (by simp) ?_
  refine AllReadyH.cons rfl (fun K hK => ?_) AllReadyH.nil
  go_simp
  refine (rootOf_calls ls.length t _ G1.book (by omega) (by omega) (Nat.le_trans (t1.small hz) (by decide))).mono ?_
  rintro e w3 A
  obtain rfl := A.ret
  refine hK.out _ _ ⟨keepCell2 G1.book A.off hS.1, keepCell2 G1.book A.off hS.2⟩ (fun hS => ?_)
  clear hK
  refine wpAnyH_ready (rs := [19]) (by kernel_rfl) (by simp) ?_
  refine AllReadyH.cons rfl (fun K hK => ?_) AllReadyH.nil
  go_simp
  refine hK.out _ _ hS (fun hS => ?_)
  clear hK
  refine wpAnyH_done (by kernel_rfl) ?_ _
  go_wp2
  go_ret
  have G0 : Grew x y p b T S w 0 T w.drew := (Grew.refl h).below hd
  exact ⟨t, note T1 (rootT ls.length t), rfl, t1.ext (Ext.note _ _), mem_noted _ _, ((G0.trans G1).trans A.grew).le (by omega)⟩

/-- What Root answers. -/
structure RootP (x y p b : Nat) (T : List ByteArray) (S : List (Int × ByteArray)) (w : World) (l : List Rc) (e : Ending) (w' : World) : Prop where
  bad : riseR l ≠ 0 → e = .returned (.tuple #[.string ⟨#[]⟩, .int .i64 (riseR l)]) ∧ Below w.heap.size w w'
  good : riseR l = 0 → ∃ r T', e = .returned (.tuple #[.string r, .int .i64 0]) ∧ RootOf T' l r ∧ Grew x y p b T S w (2 * l.length + 1) T' w'

set_option maxHeartbeats 4000000 in
set_option maxRecDepth 100000 in
theorem root_calls (v : Value) (l : List Rc) (w : World) (hr : Rcs w v l) (hl : l.length ≤ 9223372036854775807) (h : Book w p b x y T S) (hS : S.length < 1000000) (hT : T.length < 500000) :
    Calls Tryz.prog 19 #[.pointer (some ⟨p, 0, none⟩), v] w (RootP x y p b T S w l) := by
  have HR : Hid _ := refuse_calls v l w hr hl h hS
  by_cases h0 : riseR l = 0
  · obtain ⟨hl4, hzz⟩ := riseR_ok h0
    rw [h0] at HR
    go_enter Tryz.func19, Tryz.ntmps19
    go_wp2_with fail
    refine Calls.mono HR.out ?_
    rintro e w1 ⟨rfl, b1⟩
    go_wp2_with fail
    refine (over_calls v l w1 (hr.below b1) (h.below b1) hl4 (by omega) hzz).mono ?_
    rintro e w2 ⟨k, dv, ls, T1, rfl, hk, hX, ho, hlv, G1⟩
    have ll := hlv.len
    have l1 := G1.len
    go_wp2_with fail
    refine (treeRoot_calls k _ dv ls w2 hX (lf_own ho) G1.book (by omega) (by omega) hlv.small).mono ?_
    rintro e w3 ⟨t, T2, rfl, t2, m2, G2⟩
    go_wp2
    go_ret2
    refine ⟨fun hh => absurd h0 hh, fun _ => ⟨_, T2, rfl, ⟨ls, t, hlv.ext G2.ext, t2, ?_, ?_⟩, ?_⟩⟩
    · rw [← ll]; exact m2
    · rw [← ll]
    · exact ((((Grew.refl h).below b1).trans G1).trans G2).le (by omega)
  · obtain ⟨E, hE⟩ : ∃ E, riseR l = E := ⟨_, rfl⟩
    have hE0 : E ≠ 0 := by rw [← hE]; exact h0
    have d0 : decide (E = 0) = false := decide_eq_false hE0
    have d0' : (E == 0) = false := d0
    rw [hE] at HR
    go_enter Tryz.func19, Tryz.ntmps19
    go_wp2_with fail
    refine Calls.mono HR.out ?_
    rintro e w1 ⟨rfl, b1⟩
    go_wp2
    go_ret2
    exact ⟨fun _ => ⟨by rw [hE]; rfl, b1⟩, fun hh => absurd hh h0⟩
end Go.Proofs.YtocphdikppeijaaGreat

namespace Go.Proofs.YtocphdikppeijaaGreat
open Go.RowKit
set_option linter.unusedSimpArgs false
set_option linter.unusedVariables false
variable {p b x y : Nat} {T : List ByteArray} {S : List (Int × ByteArray)}

set_option maxHeartbeats 4000000 in
set_option maxRecDepth 100000 in
theorem closure_calls (i k q1 q2 g off cap n : Nat) (rk key : ByteArray) (w : World) (hin : i < n) (c1 : w.cell? ⟨q1, 0, none⟩ = some (.pointer (some ⟨k, 0, none⟩))) (c2 : w.cell? ⟨q2, 0, none⟩ = some (.string key)) (c3 : w.cell? ⟨k, 1, none⟩ = some (.slice (some ⟨g, off, none⟩) n cap)) (c4 : w.cell? ⟨g, off + i * 2, none⟩ = some (.string rk)) :
    Calls Tryz.prog 107 #[.int .i64 i, .pointer (some ⟨q1, 0, none⟩), .pointer (some ⟨q2, 0, none⟩)] w fun e w' => e = .returned (.bool (!lsB rk key)) ∧ Below w.heap.size w w' := by
  have hd : Below w.heap.size w w.drew := (Below.refl _ _).drew
  have hin' : (i : Int) < (n : Int) := by omega
  have hfl := lsB_flip key rk
  go_enter Tryz.func107, Tryz.ntmps107
  go_wp2_with fail
  go_region
  go_wp2
  go_ret
  exact ⟨rfl, hd⟩
set_option maxHeartbeats 4000000 in
set_option maxRecDepth 100000 in
theorem search_calls (n : Nat) (q : Nat → Bool) (u1 u2 : Value) (w : World) (hn : n ≤ 4096) (hm : ∀ a c, a ≤ c → c < n → q a = true → q c = true)
    (hf : ∀ i wx, i < n → Below w.heap.size w wx → Calls Tryz.prog 107 #[.int .i64 (i : Nat), u1, u2] wx fun e w' => e = .returned (.bool (q i)) ∧ Below wx.heap.size wx w') :
    Calls Tryz.prog 106 #[.int .i64 n, .func (.func 107) #[] #[u1, u2]] w fun e w' => ∃ r : Nat, e = .returned (.int .i64 r) ∧ r ≤ n ∧ (∀ a, a < r → q a = false) ∧ (∀ a, r ≤ a → a < n → q a = true) ∧ Below w.heap.size w w' := by
  have HF : Hid _ := hf
  have HM : Hid _ := hm
  clear hf hm
  go_enter Tryz.func106, Tryz.ntmps106
  go_wp2_with fail
  go_loopw [5, 6] (fun i j wr => ∃ a c : Nat, i = .int .i64 a ∧ j = .int .i64 c ∧ a ≤ c ∧ c ≤ n ∧ (∀ z, z < a → q z = false) ∧ (∀ z, c ≤ z → z < n → q z = true) ∧ Below w.heap.size w wr) (fun i j _ => (intOf j - intOf i).toNat)
  case atStart => exact ⟨0, n, rfl, rfl, Nat.zero_le _, Nat.le_refl _, fun z hz => by omega, fun z h1 h2 => by omega, Below.refl _ _⟩
  case round =>
    obtain ⟨a, c, rfl, rfl, hac, hcn, hlo, hhi, hb⟩ := hrel
    by_cases hlt : a < c
    · have hd : decide ((a : Int) < (c : Int)) = true := by simp only [decide_eq_true_eq]; omega
      have hmid : ((a : Int) + (c : Int)) / 2 = (((a + c) / 2 : Nat) : Int) := by omega
      obtain ⟨m, hmm⟩ : ∃ m, (a + c) / 2 = m := ⟨_, rfl⟩
      have hma : a ≤ m := by omega
      have hmc : m < c := by omega
      rw [hmm] at hmid
      have HC : Hid _ := HF.out m wr (by omega) hb
      cases hq : q m
      · rw [hq] at HC
        go_wp2_with fail
        refine Calls.mono HC.out ?_
        rintro e w2 ⟨rfl, b2⟩
        go_wp2
        refine ⟨⟨m + 1, c, by norm_cast, rfl, by omega, hcn, fun z hz => ?_, hhi, hb.trans (b2.mono hb.size)⟩, ?_⟩
        · cases hz2 : q z
          · rfl
          · rw [HM.out z m (by omega) (by omega) hz2] at hq; cases hq
        · simp [intOf]; omega
      · rw [hq] at HC
        go_wp2_with fail
        refine Calls.mono HC.out ?_
        rintro e w2 ⟨rfl, b2⟩
        go_wp2
        refine ⟨⟨a, m, rfl, rfl, by omega, by omega, hlo, fun z h1 h2 => HM.out m z h1 h2 hq, hb.trans (b2.mono hb.size)⟩, ?_⟩
        simp [intOf]; omega
    · have hd : decide ((a : Int) < (c : Int)) = false := by simp only [decide_eq_false_iff_not]; omega
      obtain rfl : a = c := by omega
      go_wp2
      go_ret
      exact ⟨a, rfl, hcn, hlo, hhi, hb⟩
end Go.Proofs.YtocphdikppeijaaGreat

namespace Go.Proofs.YtocphdikppeijaaGreat
open Go.RowKit
set_option linter.unusedSimpArgs false
set_option linter.unusedVariables false
variable {p b x y : Nat} {T : List ByteArray} {S : List (Int × ByteArray)}

/-- Rising keys. -/
def Rising (l : List Rc) : Prop := ∀ a c (h : a < c) (hc : c < l.length), lsB (l[a]'(Nat.lt_trans h hc)).key l[c].key = true
theorem less_trans : ∀ (u v z : List UInt8), Op.bytesLess u v = true → Op.bytesLess v z = true → Op.bytesLess u z = true
  | [], [], z, h, _ => by simp [Op.bytesLess] at h
  | [], b :: v, [], _, h => by simp [Op.bytesLess] at h
  | [], b :: v, c :: z, _, _ => by simp [Op.bytesLess]
  | a :: u, [], z, h, _ => by simp [Op.bytesLess] at h
  | a :: u, b :: v, [], _, h => by simp [Op.bytesLess] at h
  | a :: u, b :: v, c :: z, h1, h2 => by
    have ih := less_trans u v z
    simp only [Op.bytesLess, Bool.or_eq_true, Bool.and_eq_true, decide_eq_true_eq, beq_iff_eq] at h1 h2 ⊢
    rcases h1 with h1 | ⟨rfl, h1⟩
    · rcases h2 with h2 | ⟨rfl, h2⟩
      · left; rw [UInt8.lt_iff_toNat_lt] at *; omega
      · left; exact h1
    · rcases h2 with h2 | ⟨rfl, h2⟩
      · left; exact h2
      · right; exact ⟨rfl, ih h1 h2⟩
theorem less_irr : ∀ (u : List UInt8), Op.bytesLess u u = false
  | [] => rfl
  | a :: u => by
    have := less_irr u
    simp only [Op.bytesLess, this, Bool.and_false, Bool.or_false, decide_eq_false_iff_not]
    rw [UInt8.lt_iff_toNat_lt]; omega
theorem lsB_trans {a b c : ByteArray} (h : lsB a b = true) (k : lsB b c = true) : lsB a c = true := less_trans _ _ _ h k
theorem lsB_irr (a : ByteArray) : lsB a a = false := less_irr _
theorem lsB_flip' (a b : ByteArray) (h : lsB a b = false) (hn : a ≠ b) : lsB b a = true := by
  have e := lsB_flip a b
  have h1 : Op.bytesLess a.toList b.toList = false := h
  have h2 : (a.toList == b.toList) = false := by
    rw [strEq]; exact decide_eq_false hn
  rw [h1, h2] at e
  simpa using e.symm
theorem riseF_rising : ∀ (l : List Rc) (last : ByteArray), riseF last l = 0 → (∀ c (hc : c < l.length), lsB last l[c].key = true) ∧ Rising l := by
  intro l
  induction l with
  | nil => intro last _; exact ⟨fun c hc => by simp at hc, fun a c h hc => by simp at hc⟩
  | cons m l ih =>
    intro last h
    simp only [riseF] at h
    split at h
    · omega
    · split at h
      · rename_i hb hl
        obtain ⟨h1, h2⟩ := ih m.key h
        refine ⟨fun c hc => ?_, fun a c hac hc => ?_⟩
        · cases c with
          | zero => exact hl
          | succ c => exact lsB_trans hl (h1 c (by simpa using hc))
        · cases c with
          | zero => omega
          | succ c =>
            cases a with
            | zero => exact h1 c (by simpa using hc)
            | succ a => exact h2 a c (by omega) (by simpa using hc)
      · omega
theorem rising_of {l : List Rc} (h : riseR l = 0) : Rising l := by
  unfold riseR at h
  split at h
  · omega
  · exact (riseF_rising l _ h).2
/-- Where a key stands, or would stand. -/
structure Spot (l : List Rc) (key : ByteArray) (r : Nat) : Prop where
  le : r ≤ l.length
  lo : ∀ a (h : a < l.length), a < r → lsB l[a].key key = true
  hi : ∀ a (h : a < l.length), r ≤ a → lsB l[a].key key = false
def hasAt (l : List Rc) (r : Nat) (key : ByteArray) : Bool := match l[r]? with | some m => decide (m.key = key) | none => false

set_option maxHeartbeats 4000000 in
set_option maxRecDepth 100000 in
theorem find_calls (k : Nat) (lv dv bv : Value) (l : List Rc) (key : ByteArray) (w : World) (hX : Blk w k #[bv, lv, dv] 145) (hr : Rcs w lv l) (hl : l.length ≤ 4096) (hri : Rising l) :
    Calls Tryz.prog 77 #[.pointer (some ⟨k, 0, none⟩), .string key] w fun e w' => ∃ r : Nat, e = .returned (.tuple #[.int .i64 r, .bool (hasAt l r key)]) ∧ Spot l key r ∧ Below w.heap.size w w' := by
  obtain ⟨a, cap, rfl⟩ := hr.len
  obtain ⟨W1, hW1, X1, X2, B1, Z1⟩ : ∃ W1, ((w.alloc (.cells #[.pointer (some ⟨k, 0, none⟩)] 93)).alloc (.cells #[.string key] 9)) = W1 ∧ Blk W1 w.heap.size #[.pointer (some ⟨k, 0, none⟩)] 93 ∧ Blk W1 (w.heap.size + 1) #[.string key] 9 ∧ Below w.heap.size w W1 ∧ W1.heap.size = w.heap.size + 2 :=
    ⟨_, rfl, (blk_new _ _ _ _ rfl).alloc _, blk_new _ _ _ _ (by simp), by go_grown, by simp⟩
  have XT := hX.below B1
  have hr1 := hr.below B1
  have c0 : W1.cell? ⟨w.heap.size, 0, none⟩ = some (.pointer (some ⟨k, 0, none⟩)) := X1.cell rfl
  have c9 : W1.cell? ⟨w.heap.size + 1, 0, none⟩ = some (.string key) := X2.cell rfl
  have c1 : W1.cell? ⟨k, 1, none⟩ = some (.slice a l.length cap) := XT.cell rfl
  have hcl : ∀ i wx (hi : i < l.length), Below W1.heap.size W1 wx → Calls Tryz.prog 107 #[.int .i64 (i : Nat), .pointer (some ⟨w.heap.size, 0, none⟩), .pointer (some ⟨w.heap.size + 1, 0, none⟩)] wx fun e w' => e = .returned (.bool (!lsB (l[i]).key key)) ∧ Below wx.heap.size wx w' := fun i wx hi hb => by
    rcases hr1 with ⟨_, h0⟩ | ⟨g, off, c, e, hx⟩
    · rw [h0] at hi; simp at hi
    · simp only [Value.slice.injEq] at e
      obtain ⟨rfl, _, rfl⟩ := e
      exact closure_calls i k _ _ g off cap l.length l[i].key key wx hi (keepCell hb c0) (keepCell hb c9) (keepCell hb c1) (keepCell hb (hx i hi).1)
  have hcl2 : ∀ i wx, i < l.length → Below W1.heap.size W1 wx → Calls Tryz.prog 107 #[.int .i64 (i : Nat), .pointer (some ⟨w.heap.size, 0, none⟩), .pointer (some ⟨w.heap.size + 1, 0, none⟩)] wx fun e w' => e = .returned (.bool (!lsB (l.getD i ⟨⟨#[]⟩, ⟨#[]⟩⟩).key key)) ∧ Below wx.heap.size wx w' := fun i wx hi hb => by
    have e : l.getD i ⟨⟨#[]⟩, ⟨#[]⟩⟩ = l[i] := by rw [List.getD_eq_getElem?_getD, List.getElem?_eq_getElem hi]; rfl
    rw [e]; exact hcl i wx hi hb
  have hmono : ∀ a c, a ≤ c → c < l.length → (!lsB (l.getD a ⟨⟨#[]⟩, ⟨#[]⟩⟩).key key) = true → (!lsB (l.getD c ⟨⟨#[]⟩, ⟨#[]⟩⟩).key key) = true := fun a c hac hc h => by
    have e1 : l.getD a ⟨⟨#[]⟩, ⟨#[]⟩⟩ = l[a]'(by omega) := by rw [List.getD_eq_getElem?_getD, List.getElem?_eq_getElem (by omega)]; rfl
    have e2 : l.getD c ⟨⟨#[]⟩, ⟨#[]⟩⟩ = l[c] := by rw [List.getD_eq_getElem?_getD, List.getElem?_eq_getElem hc]; rfl
    rw [e1] at h
    rw [e2]
    rcases Nat.eq_or_lt_of_le hac with rfl | hlt
    · exact h
    · have h1 := hri a c hlt hc
      cases h2 : lsB l[c].key key
      · rfl
      · rw [lsB_trans h1 h2] at h; exact absurd h (by decide)
  have HSR : Hid _ := search_calls l.length (fun i => !lsB (l.getD i ⟨⟨#[]⟩, ⟨#[]⟩⟩).key key) _ _ W1 hl hmono hcl2
  clear hcl hcl2 hmono
  go_enter Tryz.func77, Tryz.ntmps77
  go_wp2_with fail
  refine Calls.mono HSR.out ?_
  rintro e w2 ⟨r, rfl, hrl, hlo, hhi, b2⟩
  have hsp : Spot l key r := by
    refine ⟨hrl, fun a h har => ?_, fun a h har => ?_⟩
    · have := hlo a har
      simpa [List.getElem?_eq_getElem h] using this
    · have := hhi a har h
      simpa [List.getElem?_eq_getElem h] using this
  have HSP : Hid _ := hsp
  clear hsp hlo hhi
  have c02 := keepCell b2 c0
  have c92 := keepCell b2 c9
  have c12 := keepCell b2 c1
  by_cases hlt : r < l.length
  · have hd : decide ((r : Int) < (l.length : Int)) = true := by simp only [decide_eq_true_eq]; omega
    have hrl' : (r : Int) < (l.length : Int) := by omega
    obtain ⟨g, off, rfl, hc0⟩ : ∃ g off, a = some ⟨g, off, none⟩ ∧ w2.cell? ⟨g, off + r * 2, none⟩ = some (.string l[r].key) := by
      rcases hr1 with ⟨_, h0⟩ | ⟨g, off, c, e, hx⟩
      · rw [h0] at hlt; simp at hlt
      · simp only [Value.slice.injEq] at e
        exact ⟨g, off, e.1, keepCell b2 (hx r hlt).1⟩
    have hhas : hasAt l r key = (l[r].key.toList == key.toList) := by
      unfold hasAt; rw [List.getElem?_eq_getElem hlt, strEq]
    have HH : Hid _ := hhas
    clear hhas
    generalize l[r].key = rk at *
    go_wp2_with fail
    go_region
    go_wp2
    go_ret2
    exact ⟨r, by rw [HH.out]; rfl, HSP.out, (chain B1 b2).drew⟩
  · have hd : decide ((r : Int) < (l.length : Int)) = false := by simp only [decide_eq_false_iff_not]; omega
    have hhas : hasAt l r key = false := by
      unfold hasAt; rw [List.getElem?_eq_none (by omega)]
    have HH : Hid _ := hhas
    clear hhas
    go_wp2_with fail
    go_region
    go_wp2
    go_ret2
    exact ⟨r, by rw [HH.out]; rfl, HSP.out, (chain B1 b2).drew⟩
end Go.Proofs.YtocphdikppeijaaGreat
