/- Where leaves part: the greatest power of two below a number, by its bits. -/
import Derived.Test.YtpcafjbebhcilaaGreatTm18
import Derived.Test.YtpcafjbebhcilaaGreatRows
import Derived.Lib.Strings
import Derived.Lib.Slices
import Derived.Lib.Small
import Derived.Lib.Walk
import Derived.Lib.BitFns
import Derived.Test.YtpcafjbebhcilaaGreatTm11
import Derived.Test.YtpcafjbebhcilaaGreatTm05
namespace Go.Proofs.YtpcafjbebhcilaaGreat
open Go.RowKit
set_option linter.unusedSimpArgs false
set_option linter.unusedVariables false

theorem tab_at (k : Nat) (h : k < Lib.len8tab.size) : ((Lib.len8tab[k]).toNat : Int) = (Lib.bitLen k : Int) ∧ Lib.bitLen k ≤ 8 := by
  have h2 : k < 256 := by rw [Lib.len8tab_size] at h; exact h
  have e := Lib.len8_eq ⟨k, h2⟩
  refine ⟨?_, Lib.bitLen_le8 ⟨k, h2⟩⟩
  rw [← e]
  unfold Lib.len8
  simp [h]

set_option maxHeartbeats 4000000 in
set_option maxRecDepth 100000 in
theorem len64_small (n : Nat) (w : World) (h : 1 ≤ n) (h2 : n ≤ 65535) : Calls Tryz.prog 112 #[.int .u64 n] w fun e w' => e = .returned (.int .i64 (Lib.bitLen n)) ∧ w' = w := by
  have d1 : decide ((4294967296 : Int) ≤ (n : Int)) = false := by simp only [decide_eq_false_iff_not]; omega
  have d2 : decide ((65536 : Int) ≤ (n : Int)) = false := by simp only [decide_eq_false_iff_not]; omega
  by_cases h3 : 256 ≤ n
  · have d3 : decide ((256 : Int) ≤ (n : Int)) = true := by simp only [decide_eq_true_eq]; omega
    have hs := Lib.bitLen_shift8 n h3 (by omega)
    obtain ⟨t1, t2⟩ := tab_at (n / 256) (by rw [Lib.len8tab_size]; omega)
    go_enter Tryz.func112, Tryz.ntmps112
    go_wp2
    · go_ret
      refine ⟨?_, rfl⟩
      show Ending.returned (Value.int _ _) = _
      rw [hs]
      rfl
    · rename_i hh
      exact absurd (by rw [Lib.len8tab_size]; omega) hh
  · have d3 : decide ((256 : Int) ≤ (n : Int)) = false := by simp only [decide_eq_false_iff_not]; omega
    obtain ⟨t1, t2⟩ := tab_at n (by rw [Lib.len8tab_size]; omega)
    go_enter Tryz.func112, Tryz.ntmps112
    go_wp2
    · go_ret
      refine ⟨?_, rfl⟩
      show Ending.returned (Value.int _ _) = _
      rfl
    · rename_i hh
      exact absurd (by rw [Lib.len8tab_size]; omega) hh

theorem len_small (n : Nat) (w : World) (h : 1 ≤ n) (h2 : n ≤ 65535) : Calls Tryz.prog 97 #[.int .u64 n] w fun e w' => e = .returned (.int .i64 (Lib.bitLen n)) ∧ w' = w := by
  go_enter Tryz.func97, Tryz.ntmps97
  go_wp2_with fail
  refine (len64_small n _ h h2).mono ?_
  rintro e w1 ⟨rfl, rfl⟩
  go_wp2
  go_ret
  exact ⟨rfl, rfl⟩

set_option maxHeartbeats 1000000 in
set_option maxRecDepth 100000 in
theorem split_calls (n : Nat) (w : World) (h : 2 ≤ n) (h2 : n ≤ 65536) : Calls Tryz.prog 79 #[.int .i64 n] w fun e w' => e = .returned (.int .i64 (hf n)) ∧ w' = w := by
  have hl := len_small (n - 1) w (by omega) (by omega)
  have hb := bitLen_log (x := n - 1) (by omega) (by omega)
  have hb2 := hf_bounds h
  rw [hb] at hl
  have e1 : ((n - 1 : Nat) : Int) = (n : Int) - 1 := by omega
  rw [e1] at hl
  have hk : Nat.log2 (n - 1) < 17 := (Nat.log2_lt (by omega)).2 (by omega)
  unfold hf at *
  generalize Nat.log2 (n - 1) = K at *
  go_enter Tryz.func79, Tryz.ntmps79
  go_wp2_with fail
  refine hl.mono ?_
  rintro e w1 ⟨rfl, rfl⟩
  go_wp2
  go_ret
  refine ⟨?_, rfl⟩
  show Ending.returned (Value.int _ _) = _
  congr 2
  have e2 : ((2 ^ K : Nat) : Int) = (2 : Int) ^ K := by push_cast; rfl
  generalize (2 : Int) ^ K = Z at *
  unfold wrap64
  omega
end Go.Proofs.YtpcafjbebhcilaaGreat

namespace Go.Proofs.YtpcafjbebhcilaaGreat
open Go.RowKit
set_option linter.unusedSimpArgs false
set_option linter.unusedVariables false
variable {p b x y : Nat} {T : List ByteArray} {S : List (Int × ByteArray)}

theorem text_mk (t : ByteArray) (w : World) (h : t.size ≤ 1048576) : Calls Tryz.prog 71 #[.string t] w fun e w' => e = .returned (.string ⟨(txtB t).toArray⟩) ∧ Below w.heap.size w w' := by
  have hp := putText_ok t w h
  go_enter Tryz.func71, Tryz.ntmps71
  go_wp2_with fail
  refine hp.mono ?_
  rintro e w1 ⟨rfl, hb⟩
  go_wp2
  go_ret
  exact ⟨rfl, hb⟩

theorem arr_cat (a b : List UInt8) : (⟨a.toArray⟩ : ByteArray) ++ (⟨b.toArray⟩ : ByteArray) = ⟨(a ++ b).toArray⟩ := by
  apply ByteArray.ext; simp
theorem arr_sz (l : List UInt8) : (⟨l.toArray⟩ : ByteArray).size = l.length := by show l.toArray.size = _; simp
theorem leafT_cat (m : Rc) : (⟨#[76]⟩ : ByteArray) ++ (⟨(txtB m.key).toArray⟩ : ByteArray) ++ (⟨(txtB m.dat).toArray⟩ : ByteArray) = leafT m := by
  apply ByteArray.ext; simp [leafT]
theorem nodeT_cat (a b : ByteArray) : (⟨#[78]⟩ : ByteArray) ++ (⟨(txtB a).toArray⟩ : ByteArray) ++ (⟨(txtB b).toArray⟩ : ByteArray) = nodeT a b := by
  apply ByteArray.ext; simp [nodeT]
theorem rootT_cat (n : Nat) (t : ByteArray) : (⟨#[82]⟩ : ByteArray) ++ (⟨(enc n).toArray⟩ : ByteArray) ++ (⟨(txtB t).toArray⟩ : ByteArray) = rootT n t := by
  apply ByteArray.ext; simp [rootT]
theorem leafT_size (m : Rc) (h1 : m.key.size ≤ 1048576) (h2 : m.dat.size ≤ 1048576) : (leafT m).size ≤ 3000000 := by
  unfold leafT; rw [arr_sz]
  have := txtB_len m.key; have := txtB_len m.dat
  simp only [List.length_cons, List.length_append]; omega
theorem nodeT_size (a b : ByteArray) (h1 : a.size ≤ 1048576) (h2 : b.size ≤ 1048576) : (nodeT a b).size ≤ 3000000 := by
  unfold nodeT; rw [arr_sz]
  have := txtB_len a; have := txtB_len b
  simp only [List.length_cons, List.length_append]; omega
theorem rootT_size (n : Nat) (t : ByteArray) (h2 : t.size ≤ 1048576) : (rootT n t).size ≤ 3000000 := by
  unfold rootT; rw [arr_sz]
  have := enc_le n; have := txtB_len t
  simp only [List.length_cons, List.length_append]; omega

theorem keepCell1 {w w' : World} (h : Below w.heap.size w w') {a : Addr} {u : Value} (hc : w.cell? a = some u) : w'.cell? a = some u := (h.cell (World.block_lt_of_cell? w _ hc)).trans hc
theorem chain {w w1 w2 : World} (h : Below w.heap.size w w1) (k : Below w1.heap.size w1 w2) : Below w.heap.size w w2 := h.trans (k.mono h.size)
/-- What a digest that is asked of a book does. -/
structure Asked (x y p b : Nat) (T : List ByteArray) (S : List (Int × ByteArray)) (s : ByteArray) (w : World) (e : Ending) (w' : World) : Prop where
  ret : e = .returned (.string (dig (note T s) s))
  book : Book w' p b x y (note T s) S
  off : Off2 x y w w'

set_option maxHeartbeats 1000000 in
set_option maxRecDepth 100000 in
theorem leafOf_calls (m : Rc) (w : World) (h : Book w p b x y T S) (hT : T.length < 1000000) (h1 : m.key.size ≤ 1048576) (h2 : m.dat.size ≤ 1048576) :
    Calls Tryz.prog 45 #[.pointer (some ⟨p, 0, none⟩), m.val] w (Asked x y p b T S (leafT m) w) := by
  have HX : Hid _ := text_mk
  have HD : Hid _ := fun (wx : World) (hx : Book wx p b x y T S) => bookDigest_calls (leafT m) wx hx hT (Nat.le_trans (leafT_size m h1 h2) (by decide))
  unfold Rc.val
  obtain ⟨W1, hW1, XV, B1, K1⟩ : ∃ W1, w.alloc (.cells #[.string m.key, .string m.dat] 47) = W1 ∧ Blk W1 w.heap.size #[.string m.key, .string m.dat] 47 ∧ Below w.heap.size w W1 ∧ Book W1 p b x y T S :=
    ⟨_, rfl, blk_new _ _ _ _ rfl, by go_grown, h.below (by go_grown)⟩
  have c0 : W1.cell? ⟨w.heap.size, 0, none⟩ = some (.string m.key) := XV.cell rfl
  have c1 : W1.cell? ⟨w.heap.size, 1, none⟩ = some (.string m.dat) := XV.cell rfl
  have zk := arr_sz (txtB m.key)
  have zl := txtB_len m.key
  have zd := arr_sz (txtB m.dat)
  have zm := txtB_len m.dat
  have hcat := leafT_cat m
  have K1d : Book W1.drew p b x y T S := K1.below (Below.refl _ _).drew
  have B1d : Below w.heap.size w W1.drew := B1.drew
  go_enter Tryz.func45, Tryz.ntmps45
  go_wp2_with fail
  go_region_with (first
    | (go_at_call 71; refine Calls.mono (HX.out _ _ (by first | exact h1 | exact h2)) ?_; rintro e w2 ⟨rfl, hb2⟩; have c2 : World.cell? w2 ⟨w.heap.size, 1, none⟩ = some (.string m.dat) := keepCell1 hb2 (by assumption); have K2 : Book w2 p b x y T S := Book.below (by assumption) hb2; have B2 : Below w.heap.size w w2 := chain (by assumption) hb2)
    | (go_at_call 30; refine (HD.out _ (by assumption)).mono ?_; rintro e w3 ⟨rfl, K3, o3⟩))
  all_goals
    go_wp2
    go_ret
    exact ⟨rfl, K3, (Off2.of_below (by assumption)).trans o3⟩

set_option maxHeartbeats 1000000 in
set_option maxRecDepth 100000 in
theorem nodeOf_calls (l r : ByteArray) (w : World) (h : Book w p b x y T S) (hT : T.length < 1000000) (h1 : l.size ≤ 1048576) (h2 : r.size ≤ 1048576) :
    Calls Tryz.prog 80 #[.pointer (some ⟨p, 0, none⟩), .string l, .string r] w (Asked x y p b T S (nodeT l r) w) := by
  have HX : Hid _ := text_mk
  have HD : Hid _ := fun (wx : World) (hx : Book wx p b x y T S) => bookDigest_calls (nodeT l r) wx hx hT (Nat.le_trans (nodeT_size l r h1 h2) (by decide))
  have K1d : Book w.drew p b x y T S := h.below (Below.refl _ _).drew
  have B1d : Below w.heap.size w w.drew := (Below.refl _ _).drew
  have zk := arr_sz (txtB l)
  have zl := txtB_len l
  have zd := arr_sz (txtB r)
  have zm := txtB_len r
  have hcat := nodeT_cat l r
  go_enter Tryz.func80, Tryz.ntmps80
  go_wp2_with fail
  refine (HX.out _ _ h1).mono ?_
  rintro e w1 ⟨rfl, b1⟩
  go_wp2_with fail
  refine (HX.out _ _ h2).mono ?_
  rintro e w2 ⟨rfl, b2⟩
  go_wp2_with fail
  refine (HD.out _ ((h.below b1).below b2)).mono ?_
  rintro e w3 ⟨rfl, K3, o3⟩
  go_wp2
  go_ret
  exact ⟨rfl, K3, (Off2.of_below (chain b1 b2)).trans o3⟩

set_option maxHeartbeats 1000000 in
set_option maxRecDepth 100000 in
theorem rootOf_calls (n : Nat) (t : ByteArray) (w : World) (h : Book w p b x y T S) (hT : T.length < 1000000) (h1 : n ≤ 9007199254740992) (h2 : t.size ≤ 1048576) :
    Calls Tryz.prog 51 #[.pointer (some ⟨p, 0, none⟩), .int .i64 n, .string t] w (Asked x y p b T S (rootT n t) w) := by
  have HX : Hid _ := text_mk
  have HI : Hid _ := putInt_ok
  have HD : Hid _ := fun (wx : World) (hx : Book wx p b x y T S) => bookDigest_calls (rootT n t) wx hx hT (Nat.le_trans (rootT_size n t h2) (by decide))
  have zk := arr_sz (enc n)
  have zl := enc_le n
  have zd := arr_sz (txtB t)
  have zm := txtB_len t
  have hcat := rootT_cat n t
  go_enter Tryz.func51, Tryz.ntmps51
  go_wp2_with fail
  refine (HI.out _ _ h1).mono ?_
  rintro e w1 ⟨rfl, b1⟩
  go_wp2_with fail
  refine (HX.out _ _ h2).mono ?_
  rintro e w2 ⟨rfl, b2⟩
  go_wp2_with fail
  refine (HD.out _ ((h.below b1).below b2)).mono ?_
  rintro e w3 ⟨rfl, K3, o3⟩
  go_wp2
  go_ret
  exact ⟨rfl, K3, (Off2.of_below (chain b1 b2)).trans o3⟩
end Go.Proofs.YtpcafjbebhcilaaGreat
