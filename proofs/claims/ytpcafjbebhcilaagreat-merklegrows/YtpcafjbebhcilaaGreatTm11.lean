/- What the methods of a book that numbers answer, and what turns. -/
import Derived.Test.YtpcafjbebhcilaaGreatTm10
namespace Go.Proofs.YtpcafjbebhcilaaGreat
open Go.RowKit
set_option linter.unusedSimpArgs false
set_option linter.unusedVariables false

variable {b x y : Nat} {T : List ByteArray} {S : List (Int × ByteArray)}

theorem num_of_seek {α : Type} [DecidableEq α] {k : α} {l : List α} {j : Nat} (h : seek k l 0 = some j) : num l k = j + 1 := by unfold num; rw [h]; rfl

set_option maxHeartbeats 1000000 in
set_option maxRecDepth 100000 in
theorem digest_calls (s : ByteArray) (w : World) (h : Nums w b x y T S) (hT : T.length < 1000000) (hs : s.size ≤ 140737488351232) :
    Calls Tryz.prog 136 #[.pointer (some ⟨b, 0, none⟩), .string s] w fun e w' => e = .returned (.string (eightB (num (note T s) s))) ∧ Nums w' b x y (note T s) S ∧ Off2 x y w w' := by
  have c0 : w.cell? ⟨b, 0, none⟩ = some (.map (some x)) := h.blk.cell rfl
  have hl := h.lookX s
  by_cases hm : s ∈ T
  · obtain ⟨j, hj, _, hjl⟩ := seek_some s T 0 hm
    rw [Nat.zero_add] at hj
    rw [note_old hm, num_of_seek hj]
    rw [hj] at hl
    have he := fun wx => eight_calls (j + 1) wx (by omega)
    simp only [Int.natCast_succ] at he
    unfold lookV at hl
    go_enter Tryz.func136, Tryz.ntmps136
    go_wp2_with fail
    refine (he _).mono ?_
    rintro e w1 ⟨rfl, hb⟩
    go_wp2
    go_ret
    exact ⟨rfl, h.below hb, Off2.of_below hb⟩
  · rw [num_new hm]
    rw [seek_none s T 0 hm] at hl
    unfold lookV at hl
    have hc := fun wx => clone_calls s wx (by omega)
    have he := fun wx => eight_calls (T.length + 1) wx (by omega)
    simp only [Int.natCast_succ] at he
    have HE : Hid _ := he
    have HC : Hid _ := hc
    clear he hc
    have hlen := h.lenX
    go_enter Tryz.func136, Tryz.ntmps136
    go_wp2_with fail
    go_region_with (go_at_call 44; refine (HC.out _).mono ?_; rintro e w1 ⟨rfl, hb1⟩; have N1 := h.below ((Below.refl w.heap.size w).drew.trans hb1); obtain ⟨W2, hp, N2, O2⟩ := N1.putXe s hm; have c1 : World.cell? _ ⟨b, 0, none⟩ = some (.map (some x)) := N1.blk.cell rfl)
    all_goals
      go_wp2_with fail
      refine (HE.out _).mono ?_
      rintro e w3 ⟨rfl, hb3⟩
      go_wp2
      go_ret
      exact ⟨rfl, N2.below hb3, ((Off2.of_below ((Below.refl w.heap.size w).drew.trans hb1)).trans O2).trans (Off2.of_below hb3)⟩

set_option maxHeartbeats 1000000 in
set_option maxRecDepth 100000 in
theorem digest_old (s : ByteArray) (w : World) (h : Nums w b x y T S) (hT : T.length < 1000000) (hm : s ∈ T) :
    Calls Tryz.prog 136 #[.pointer (some ⟨b, 0, none⟩), .string s] w fun e w' => e = .returned (.string (eightB (num T s))) ∧ Below w.heap.size w w' := by
  have c0 : w.cell? ⟨b, 0, none⟩ = some (.map (some x)) := h.blk.cell rfl
  have hl := h.lookX s
  obtain ⟨j, hj, _, hjl⟩ := seek_some s T 0 hm
  rw [Nat.zero_add] at hj
  rw [num_of_seek hj]
  rw [hj] at hl
  have he := fun wx => eight_calls (j + 1) wx (by omega)
  simp only [Int.natCast_succ] at he
  unfold lookV at hl
  go_enter Tryz.func136, Tryz.ntmps136
  go_wp2_with fail
  refine (he _).mono ?_
  rintro e w1 ⟨rfl, hb⟩
  go_wp2
  go_ret
  exact ⟨rfl, hb⟩

/-- Is it the signature? -/
def chk (S : List (Int × ByteArray)) (who : Int) (s sig : ByteArray) : Bool := isIn S (who, s) && decide (sig = sgnB (num S (who, s)))

set_option maxHeartbeats 1000000 in
set_option maxRecDepth 100000 in
theorem check_calls (who : Int) (s sig : ByteArray) (w : World) (h : Nums w b x y T S) (hS : S.length < 1000000) :
    Calls Tryz.prog 135 #[.pointer (some ⟨b, 0, none⟩), .int .i64 who, .string s, .string sig] w fun e w' => e = .returned (.bool (chk S who s sig)) ∧ Below w.heap.size w w' := by
  have c0 : w.cell? ⟨b, 1, none⟩ = some (.map (some y)) := h.blk.cell rfl
  have hl := h.lookY (who, s)
  by_cases hm : (who, s) ∈ S
  · obtain ⟨j, hj, _, hjl⟩ := seek_some (who, s) S 0 hm
    rw [Nat.zero_add] at hj
    obtain ⟨B, hB⟩ : ∃ B, chk S who s sig = B := ⟨_, rfl⟩
    have hB' : (sig.toList == (sgnB (j + 1)).toList) = B := by
      rw [strEq, ← hB]; unfold chk; rw [num_of_seek hj, (isIn_iff _ _).2 hm]; simp
    rw [hB]
    rw [hj] at hl
    have he := fun wx => signature_calls (j + 1) wx (by omega)
    simp only [Int.natCast_succ] at he
    unfold lookV pairV at hl
    clear hB
    go_enter Tryz.func135, Tryz.ntmps135
    go_wp2_with fail
    refine (he _).mono ?_
    rintro e w1 ⟨rfl, hb⟩
    go_wp2
    go_ret
    exact ⟨rfl, hb⟩
  · have hB : chk S who s sig = false := by unfold chk; rw [(isIn_false _ _).2 hm]; rfl
    rw [hB]
    rw [seek_none (who, s) S 0 hm] at hl
    unfold lookV pairV at hl
    go_enter Tryz.func135, Tryz.ntmps135
    go_wp2
    go_ret
    exact ⟨rfl, Below.refl _ _⟩

end Go.Proofs.YtpcafjbebhcilaaGreat

namespace Go.Proofs.YtpcafjbebhcilaaGreat
open Go.RowKit
set_option linter.unusedSimpArgs false
set_option linter.unusedVariables false

/-- A book that numbers: its block p, the scheme's b, the two maps x and y. -/
structure Book (w : World) (p b x y : Nat) (T : List ByteArray) (S : List (Int × ByteArray)) : Prop where
  blk : Blk w p #[.iface 55 (.pointer (some ⟨b, 0, none⟩))] 60
  nums : Nums w b x y T S
variable {p b x y : Nat} {T : List ByteArray} {S : List (Int × ByteArray)}
theorem Book.npx {w : World} (h : Book w p b x y T S) : p ≠ x := fun e => by
  have h1 := h.blk; unfold Blk at h1; rw [e, h.nums.mx] at h1; cases h1
theorem Book.npy {w : World} (h : Book w p b x y T S) : p ≠ y := fun e => by
  have h1 := h.blk; unfold Blk at h1; rw [e, h.nums.my] at h1; cases h1
theorem Book.below {w w' : World} (h : Book w p b x y T S) (k : Below w.heap.size w w') : Book w' p b x y T S := ⟨h.blk.below k, h.nums.below k⟩

theorem Book.lts {w : World} (h : Book w p b x y T S) : p < w.heap.size ∧ b < w.heap.size ∧ x < w.heap.size ∧ y < w.heap.size := ⟨h.blk.lt, h.nums.blk.lt, lt_of_heap h.nums.mx, lt_of_heap h.nums.my⟩
theorem made_calls (w : World) (h : Book w p b x y T S) : Calls Tryz.prog 53 #[.pointer (some ⟨p, 0, none⟩)] w fun e w' => e = .returned (.bool true) ∧ w' = w := by
  have c0 : w.cell? ⟨p, 0, none⟩ = some (.iface 55 (.pointer (some ⟨b, 0, none⟩))) := h.blk.cell rfl
  go_enter Tryz.func53, Tryz.ntmps53
  go_wp2
  go_ret
  exact ⟨rfl, rfl⟩
def isSg (who : Int) : Bool := decide (0 ≤ who ∧ who ≤ 255)
theorem isSigner_calls (who : Int) (w : World) : Calls Tryz.prog 88 #[.int .i64 who] w fun e w' => e = .returned (.bool (isSg who)) ∧ w' = w := by
  unfold isSg
  by_cases h1 : 0 ≤ who
  · have hd1 : decide (0 ≤ who) = true := decide_eq_true h1
    have hd2 : decide (0 ≤ who ∧ who ≤ 255) = decide (who ≤ 255) := by simp [h1]
    rw [hd2]
    go_enter Tryz.func88, Tryz.ntmps88
    go_wp2
    go_ret
    exact ⟨rfl, rfl⟩
  · have hd1 : decide (0 ≤ who) = false := decide_eq_false h1
    have hd2 : decide (0 ≤ who ∧ who ≤ 255) = false := by simp [h1]
    rw [hd2]
    go_enter Tryz.func88, Tryz.ntmps88
    go_wp2
    go_ret
    exact ⟨rfl, rfl⟩

set_option maxHeartbeats 1000000 in
set_option maxRecDepth 100000 in
theorem newNumbers_calls (w : World) : Calls Tryz.prog 22 #[] w fun e w' => ∃ b x y, e = .returned (.pointer (some ⟨b, 0, none⟩)) ∧ Nums w' b x y [] [] ∧ Below w.heap.size w w' ∧ w.heap.size ≤ b ∧ w.heap.size ≤ x ∧ w.heap.size ≤ y := by
  have hmk : ∀ t wx, (Instr.makeMap t none).run Tryz.prog wx = .ok (.map (some wx.heap.size)) (wx.alloc (.map #[] 0)) := fun _ _ => rfl
  go_enter Tryz.func22, Tryz.ntmps22
  go_wp2
  go_ret
  have hx : (((w.alloc (.map #[] 0)).alloc (.map #[] 0)).alloc (.cells #[.map (some w.heap.size), .map (some (w.heap.size + 1))] 95)).heap[w.heap.size]? = some (.map #[] 0) :=
    ((MapKept.heap_alloc _ _).2 _ (by simp; omega)).trans (((MapKept.heap_alloc _ _).2 _ (by simp)).trans (MapKept.heap_alloc _ _).1)
  have hy : (((w.alloc (.map #[] 0)).alloc (.map #[] 0)).alloc (.cells #[.map (some w.heap.size), .map (some (w.heap.size + 1))] 95)).heap[w.heap.size + 1]? = some (.map #[] 0) :=
    ((MapKept.heap_alloc _ _).2 _ (by simp)).trans (by have := (MapKept.heap_alloc (w.alloc (.map #[] 0)) (.map #[] 0)).1; simpa using this)
  refine ⟨w.heap.size + 2, w.heap.size, w.heap.size + 1, rfl, ⟨blk_new _ _ _ _ (by simp), hx, hy, by omega⟩, by go_grown, by omega, by omega, by omega⟩

set_option maxHeartbeats 1000000 in
set_option maxRecDepth 100000 in
theorem newBook_calls (w : World) : Calls Tryz.prog 6 #[] w fun e w' => ∃ p b x y, e = .returned (.pointer (some ⟨p, 0, none⟩)) ∧ Book w' p b x y [] [] ∧ Below w.heap.size w w' ∧ w.heap.size ≤ p ∧ w.heap.size ≤ b ∧ w.heap.size ≤ x ∧ w.heap.size ≤ y := by
  go_enter Tryz.func6, Tryz.ntmps6
  go_wp2_with fail
  refine (newNumbers_calls _).mono ?_
  rintro e w1 ⟨b, x, y, rfl, hN, hb, h1, h2, h3⟩
  go_wp2
  go_ret
  have hz := hb.size
  exact ⟨w1.heap.size, b, x, y, rfl, ⟨blk_new _ _ _ _ rfl, hN.below ((Below.refl _ _).alloc (Nat.le_refl _) _)⟩, hb.alloc hz _, hz, h1, h2, h3⟩

set_option maxHeartbeats 1000000 in
set_option maxRecDepth 100000 in
theorem bookDigest_calls (s : ByteArray) (w : World) (h : Book w p b x y T S) (hT : T.length < 1000000) (hs : s.size ≤ 140737488351232) :
    Calls Tryz.prog 30 #[.pointer (some ⟨p, 0, none⟩), .string s] w fun e w' => e = .returned (.string (eightB (num (note T s) s))) ∧ Book w' p b x y (note T s) S ∧ Off2 x y w w' := by
  have c0 : w.cell? ⟨p, 0, none⟩ = some (.iface 55 (.pointer (some ⟨b, 0, none⟩))) := h.blk.cell rfl
  have hd := digest_calls s w h.nums hT hs
  have hm := made_calls w h
  go_enter Tryz.func30, Tryz.ntmps30
  go_wp2_with fail
  refine hm.mono ?_
  rintro e w1 ⟨rfl, rfl⟩
  go_wp2_with fail
  refine hd.mono ?_
  rintro e w2 ⟨rfl, hN, ho⟩
  go_wp2
  go_ret
  exact ⟨rfl, ⟨h.blk.off2 ho h.npx h.npy, hN⟩, ho⟩

set_option maxHeartbeats 1000000 in
set_option maxRecDepth 100000 in
theorem bookDigest_old (s : ByteArray) (w : World) (h : Book w p b x y T S) (hT : T.length < 1000000) (hm : s ∈ T) :
    Calls Tryz.prog 30 #[.pointer (some ⟨p, 0, none⟩), .string s] w fun e w' => e = .returned (.string (eightB (num T s))) ∧ Below w.heap.size w w' := by
  have c0 : w.cell? ⟨p, 0, none⟩ = some (.iface 55 (.pointer (some ⟨b, 0, none⟩))) := h.blk.cell rfl
  have hd := digest_old s w h.nums hT hm
  have hm := made_calls w h
  go_enter Tryz.func30, Tryz.ntmps30
  go_wp2_with fail
  refine hm.mono ?_
  rintro e w1 ⟨rfl, rfl⟩
  go_wp2_with fail
  refine hd.mono ?_
  rintro e w2 ⟨rfl, hb⟩
  go_wp2
  go_ret
  exact ⟨rfl, hb⟩

/-- What Sign answers, and what is signed then. -/
def signR (S : List (Int × ByteArray)) (who : Int) (s : ByteArray) : Array Value := if isSg who = true then #[.string (sgnB (num (note S (who, s)) (who, s))), .int .i64 0] else #[.string ⟨#[]⟩, .int .i64 1]
def signS (S : List (Int × ByteArray)) (who : Int) (s : ByteArray) : List (Int × ByteArray) := if isSg who = true then note S (who, s) else S

/-- What Check and Issued answer. -/
def chkB (S : List (Int × ByteArray)) (who : Int) (s sig : ByteArray) : Bool := isSg who && chk S who s sig
def issB (S : List (Int × ByteArray)) (who : Int) (s : ByteArray) : Bool := isSg who && isIn S (who, s)

set_option maxHeartbeats 1000000 in
set_option maxRecDepth 100000 in
theorem bookCheck_calls (who : Int) (s sig : ByteArray) (w : World) (h : Book w p b x y T S) (hS : S.length < 1000000) :
    Calls Tryz.prog 76 #[.pointer (some ⟨p, 0, none⟩), .int .i64 who, .string s, .string sig] w fun e w' => e = .returned (.bool (chkB S who s sig)) ∧ Below w.heap.size w w' := by
  have c0 : w.cell? ⟨p, 0, none⟩ = some (.iface 55 (.pointer (some ⟨b, 0, none⟩))) := h.blk.cell rfl
  have hd := check_calls who s sig w h.nums hS
  have hm := made_calls w h
  have hi := isSigner_calls who w
  unfold chkB
  generalize chk S who s sig = C at hd
  cases hw : isSg who
  · rw [hw] at hi
    rw [Bool.false_and]
    go_enter Tryz.func76, Tryz.ntmps76
    go_wp2_with fail
    refine hm.mono ?_
    rintro e w1 ⟨rfl, rfl⟩
    go_wp2_with fail
    refine hi.mono ?_
    rintro e w1 ⟨rfl, rfl⟩
    go_wp2
    go_ret
    exact ⟨rfl, Below.refl _ _⟩
  · rw [hw] at hi
    rw [Bool.true_and]
    go_enter Tryz.func76, Tryz.ntmps76
    go_wp2_with fail
    refine hm.mono ?_
    rintro e w1 ⟨rfl, rfl⟩
    go_wp2_with fail
    refine hi.mono ?_
    rintro e w1 ⟨rfl, rfl⟩
    go_wp2_with fail
    refine hd.mono ?_
    rintro e w2 ⟨rfl, hb⟩
    go_wp2
    go_ret
    exact ⟨rfl, hb⟩

end Go.Proofs.YtpcafjbebhcilaaGreat
