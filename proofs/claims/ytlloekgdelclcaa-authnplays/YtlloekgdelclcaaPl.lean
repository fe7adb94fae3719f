/- Both books, the program's and the document's, side by side. -/
import Derived.Test.YtlloekgdelclcaaRbC
import Derived.Test.YtlloekgdelclcaaRnd
import Derived.Test.YtlloekgdelclcaaAuY
import Derived.Test.YtlloekgdelclcaaAc
import Derived.Deep.RegionHeldLaw
import Derived.Deep.RegionHeld3
namespace Go.Proofs.Ytlloekgdelclcaa
open Go.RowKit
set_option linter.unusedSimpArgs false
set_option linter.unusedVariables false
variable {p b x y base r : Nat} {tv sv : Value} {T T' : List ByteArray} {S S' : List (Int × ByteArray)}

theorem Off3.cell {row : Option Nat} {w w' : World} (h : Off3 r row w w') {a : Addr} (hl : a.block < w.heap.size) (h1 : a.block ≠ r) (h2 : row ≠ some a.block) : w'.cell? a = w.cell? a := World.cell?_of_block (w := w) (h.block a.block hl h1 h2)
/-- Both books hold the same. -/
structure Both (w : World) (base p b x y r : Nat) (T : List ByteArray) (S : List (Int × ByteArray)) : Prop where
  book : Book w p b x y T S
  ref : ∃ tv sv, RB w base r tv sv T S
  bx : base ≤ x
  yb : base ≤ y
theorem Both.below {w w' : World} (h : Both w base p b x y r T S) (k : Below w.heap.size w w') : Both w' base p b x y r T S := by
  obtain ⟨K, ⟨tv, sv, R⟩, h1, h2⟩ := h
  exact ⟨K.below k, ⟨tv, sv, R.below k⟩, h1, h2⟩
/-- What a step leaves. -/
structure Stepped (w : World) (base p b x y r : Nat) (T : List ByteArray) (S : List (Int × ByteArray)) (w' : World) : Prop where
  ex : ∃ T' S', Both w' base p b x y r T' S' ∧ T'.length ≤ T.length + 1 ∧ S'.length ≤ S.length + 1
  bel : Below base w w'
/-- The rows of the document's book lie apart from the program's. -/
theorem RB.rowT {w : World} (h : RB w base r tv sv T S) (K : Book w p b x y T' S') : tv.ownBlock ≠ some p ∧ tv.ownBlock ≠ some b ∧ tv.ownBlock ≠ some x ∧ tv.ownBlock ≠ some y := K.apart h.texts (by decide) (by decide)
theorem RB.rowS {w : World} (h : RB w base r tv sv T S) (K : Book w p b x y T' S') : sv.ownBlock ≠ some p ∧ sv.ownBlock ≠ some b ∧ sv.ownBlock ≠ some x ∧ sv.ownBlock ≠ some y := K.apart h.signed (by decide) (by decide)
theorem RB.ltT {w : World} (h : RB w base r tv sv T S) (k : Nat) (hk : tv.ownBlock = some k) : base ≤ k ∧ k < w.heap.size := World.ownsRow.lt h.texts k hk
theorem RB.ltS {w : World} (h : RB w base r tv sv T S) (k : Nat) (hk : sv.ownBlock = some k) : base ≤ k ∧ k < w.heap.size := World.ownsRow.lt h.signed k hk

def acV (a : Ac) : Value := .agg #[.int .i64 a.kind, .int .i64 a.who, .string a.text, .string a.sig]

set_option maxHeartbeats 4000000 in
set_option maxRecDepth 100000 in
/-- A text is digested by both. -/
theorem step_digest (kind who : Int) (text sig : ByteArray) (w : World) (h : Both w base p b x y r T S) (hT : T.length < 999999) (hS : S.length < 999999) (ht : text.size ≤ 140737488351232) (hbase : base ≤ w.heap.size) (hq : rnd kind 4 = 0) :
    Calls Try.prog 5 #[.pointer (some ⟨p, 0, none⟩), .pointer (some ⟨r, 0, none⟩), .agg #[.int .i64 kind, .int .i64 who, .string text, .string sig]] w fun e w' => e = .returned (.bool true) ∧ Stepped w base p b x y r T S w' := by
  obtain ⟨W0, hW0⟩ : ∃ W0, w.alloc (.cells #[.int .i64 kind, .int .i64 who, .string text, .string sig] 32) = W0 := ⟨_, rfl⟩
  have B0 : Below w.heap.size w W0 := by rw [← hW0]; exact (Below.refl _ _).alloc (Nat.le_refl _) _
  have X0 : Blk W0 w.heap.size #[.int .i64 kind, .int .i64 who, .string text, .string sig] 32 := by rw [← hW0]; exact blk_new _ _ _ _ rfl
  have h0 := h.below B0
  have hlx : x < w.heap.size ∧ y < w.heap.size := ⟨h.book.lts.2.2.1, h.book.lts.2.2.2⟩
  obtain ⟨tv0, sv0, R0⟩ := h.ref
  have hrl := R0.blk.lt
  have hbx := h.bx
  have hby := h.yb
  clear h
  have d0 : W0.cell? ⟨w.heap.size, 0, none⟩ = some (.int .i64 kind) := X0.cell rfl
  have d1 : W0.cell? ⟨w.heap.size, 1, none⟩ = some (.int .i64 who) := X0.cell rfl
  have d2 : W0.cell? ⟨w.heap.size, 2, none⟩ = some (.string text) := X0.cell rfl
  have hx0 := X0.lt
  obtain ⟨K0, ⟨tv, sv, R⟩, -, -⟩ := h0
  have HK : Hid _ := K0
  have HR : Hid _ := R
  have HR0 : Hid _ := fun k hk => (R.ltT k hk).1
  have hrow : tv.ownBlock ≠ some w.heap.size := row_not R.texts X0 (by decide)
  have HRow : Hid _ := hrow
  have HRd : Hid _ := fun wx => round_calls kind 4 wx (by decide) (by decide)
  rw [hq] at HRd
  clear K0 R hrow X0 R0
  have HZ : Hid _ := B0
  have hz0 := B0.size
  clear B0 hq
  have hcs : (0 ≤ who ∧ who ≤ 255) ∨ (0 ≤ who ∧ ¬ who ≤ 255) ∨ ¬ 0 ≤ who := by omega
  rcases hcs with ⟨g0, g1⟩ | ⟨g0, g1⟩ | g0
  all_goals
    go_enter Try.func5, Try.ntmps5
    go_wp2_with fail
    refine (HRd.out _).mono ?_
    rintro e w1 ⟨rfl, rfl⟩
    go_wp2_with fail
    have hdw : Below w1.heap.size w1 w1.drew := (Below.refl _ _).drew
    refine wp_region_held_drew (S := (fun wx => wx.cell? ⟨w.heap.size, 2, none⟩ = some (.string text))) (by kernel_rfl) d2 (fun hS => ?_)
    refine wpAnyH_take (i := 0) (v := (.pointer (some ⟨p, 0, none⟩))) rfl (by kernel_rfl) (by kernel_rfl) (by kernel_rfl) (fun _ _ _ h => h) (Or.inl ⟨by rfl, fun w hS => by have s0 := hS; go_simp⟩) hS ?_
    refine wpAnyH_take (i := 1) (v := (.pointer (some ⟨w.heap.size, 2, none⟩))) rfl (by kernel_rfl) (by kernel_rfl) (by kernel_rfl) (fun _ _ _ h => h) (Or.inl ⟨by rfl, fun w hS => by have s0 := hS; go_simp⟩) hS ?_
    refine wpAnyH_take (i := 2) (v := (.string text)) rfl (by kernel_rfl) (by kernel_rfl) (by kernel_rfl) (fun _ _ _ h => h) (Or.inl ⟨by rfl, fun w hS => by have s0 := hS; go_simp⟩) hS ?_
    refine wpAnyH_take (i := 4) (v := (.pointer (some ⟨r, 0, none⟩))) rfl (by kernel_rfl) (by kernel_rfl) (by kernel_rfl) (fun _ _ _ h => h) (Or.inl ⟨by rfl, fun w hS => by have s0 := hS; go_simp⟩) hS ?_
    refine wpAnyH_take (i := 5) (v := (.pointer (some ⟨w.heap.size, 2, none⟩))) rfl (by kernel_rfl) (by kernel_rfl) (by kernel_rfl) (fun _ _ _ h => h) (Or.inl ⟨by rfl, fun w hS => by have s0 := hS; go_simp⟩) hS ?_
    refine wpAnyH_take (i := 6) (v := (.string text)) rfl (by kernel_rfl) (by kernel_rfl) (by kernel_rfl) (fun _ _ _ h => h) (Or.inl ⟨by rfl, fun w hS => by have s0 := hS; go_simp⟩) hS ?_
    refine wpAnyH_ready (rs := [3]) (by kernel_rfl) (by simp) ?_
    refine AllReadyH.cons rfl (fun K hK => ?_) AllReadyH.nil
    go_simp
    refine (bookDigest_calls text _ (Book.below HK.out hdw) (by omega) ht).mono ?_
    rintro e w2 ⟨rfl, K2, o2⟩
    refine hK.out _ _ (keepCell2 (Book.below HK.out hdw) o2 hS) (fun hS => ?_)
    clear hK
    refine wpAnyH_ready (rs := [7]) (by kernel_rfl) (by simp) ?_
    refine AllReadyH.cons rfl (fun K hK => ?_) AllReadyH.nil
    have R2 := RB.off2 (RB.below HR.out hdw) (Book.below HK.out hdw) o2
    have z2 := o2.size
    go_simp
    refine (refDigest_calls text _ R2 (by omega) ht (Nat.le_trans hbase (Nat.le_trans hz0 z2))).mono ?_
    rintro e w3 ⟨rfl, tv', R3, o3⟩
    refine hK.out _ _ ((o3.cell (a := ⟨w.heap.size, 2, none⟩) (show w.heap.size < w2.heap.size by exact Nat.lt_of_lt_of_le hx0 z2) (show w.heap.size ≠ r by omega) (fun e => HRow.out e)).trans hS) (fun hS => ?_)
    clear hK
    refine wpAnyH_ready (rs := [8]) (by kernel_rfl) (by simp) ?_
    refine AllReadyH.cons rfl (fun K hK => ?_) AllReadyH.nil
    go_simp
    refine hK.out _ _ hS (fun hS => ?_)
    clear hK
    refine wpAnyH_ready (rs := [9]) (by kernel_rfl) (by simp) ?_
    refine AllReadyH.cons rfl (fun K hK => ?_) AllReadyH.nil
    go_simp
    refine hK.out _ _ hS (fun hS => ?_)
    clear hK
    refine wpAnyH_done (by kernel_rfl) ?_ _
    have K3 : Book w3 p b x y (note T text) S := K2.off3 o3 (R2.notIn K2) (R2.rowT K2)
    have hnl := note_len T text
    have bB1 : Below base w w1 := (HZ.out : Below w.heap.size w w1).mono hbase
    have bB2 : Below base w w2 := o2.below hbx hby bB1.drew (Nat.le_trans hbase hz0)
    have bB3 : Below base w w3 := o3.belowB R2.rb (fun k hk => HR0.out k hk) bB2 (Nat.le_trans hbase (Nat.le_trans hz0 z2))
    have HST : Hid _ := (show Stepped w base p b x y r T S w3 from ⟨⟨_, _, ⟨K3, ⟨_, _, R3⟩, hbx, hby⟩, hnl, Nat.le_succ _⟩, bB3⟩)
    clear K2 K3 R2 R3 o2 o3 hS bB1 bB2 bB3
    go_wp2
    go_ret
    exact ⟨rfl, HST.out⟩
end Go.Proofs.Ytlloekgdelclcaa
