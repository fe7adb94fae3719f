/- Where leaves part: the greatest power of two below a number, by its bits. -/
import Derived.Test.YtocphdikppeijaaGreatLy20
import Derived.Test.YtocphdikppeijaaGreatRows
import Derived.Lib.Strings
import Derived.Lib.Slices
import Derived.Lib.Small
import Derived.Lib.Walk
import Derived.Lib.BitFns
import Derived.Test.YtocphdikppeijaaGreatLy14
import Derived.Test.YtocphdikppeijaaGreatLy03
import Derived.Test.YtocphdikppeijaaGreatLy16
namespace Go.Proofs.YtocphdikppeijaaGreat
open Go.RowKit
set_option linter.unusedSimpArgs false
set_option linter.unusedVariables false

theorem tab_at (k : Nat) (h : k < Lib.len8tab.size) : ((Lib.len8tab[k]).toNat : Int) = (Lib.bitLen k : Int) ∧ Lib.bitLen k ≤ 8 := by
  have h2 : k < 256 := by rw [Lib.len8tab_size] at h; exact h
  have e := Lib.len8_eq ⟨k, h2⟩
  refine ⟨?_, Lib.bitLen_le8 ⟨k, h2⟩⟩
  rw [← e]
  unfold Lib.len8
  simp [h]

set_option maxHeartbeats 4000000 in
set_option maxRecDepth 100000 in
theorem len64_small (n : Nat) (w : World) (h : 1 ≤ n) (h2 : n ≤ 65535) : Calls Tryz.prog 130 #[.int .u64 n] w fun e w' => e = .returned (.int .i64 (Lib.bitLen n)) ∧ w' = w := by
  have d1 : decide ((4294967296 : Int) ≤ (n : Int)) = false := by simp only [decide_eq_false_iff_not]; omega
  have d2 : decide ((65536 : Int) ≤ (n : Int)) = false := by simp only [decide_eq_false_iff_not]; omega
  by_cases h3 : 256 ≤ n
  · have d3 : decide ((256 : Int) ≤ (n : Int)) = true := by simp only [decide_eq_true_eq]; omega
    have hs := Lib.bitLen_shift8 n h3 (by omega)
    obtain ⟨t1, t2⟩ := tab_at (n / 256) (by rw [Lib.len8tab_size]; omega)
    go_enter Tryz.func130, Tryz.ntmps130
    go_wp2
    · go_ret
      refine ⟨?_, rfl⟩
      show Ending.returned (Value.int _ _) = _
      rw [hs]
      rfl
    · rename_i hh
      exact absurd (by rw [Lib.len8tab_size]; omega) hh
  · have d3 : decide ((256 : Int) ≤ (n : Int)) = false := by simp only [decide_eq_false_iff_not]; omega
    obtain ⟨t1, t2⟩ := tab_at n (by rw [Lib.len8tab_size]; omega)
    go_enter Tryz.func130, Tryz.ntmps130
    go_wp2
    · go_ret
      refine ⟨?_, rfl⟩
      show Ending.returned (Value.int _ _) = _
      rfl
    · rename_i hh
      exact absurd (by rw [Lib.len8tab_size]; omega) hh

theorem len_small (n : Nat) (w : World) (h : 1 ≤ n) (h2 : n ≤ 65535) : Calls Tryz.prog 127 #[.int .u64 n] w fun e w' => e = .returned (.int .i64 (Lib.bitLen n)) ∧ w' = w := by
  go_enter Tryz.func127, Tryz.ntmps127
  go_wp2_with fail
  refine (len64_small n _ h h2).mono ?_
  rintro e w1 ⟨rfl, rfl⟩
  go_wp2
  go_ret
  exact ⟨rfl, rfl⟩

set_option maxHeartbeats 1000000 in
set_option maxRecDepth 100000 in
theorem split_calls (n : Nat) (w : World) (h : 2 ≤ n) (h2 : n ≤ 65536) : Calls Tryz.prog 115 #[.int .i64 n] w fun e w' => e = .returned (.int .i64 (hf n)) ∧ w' = w := by
  have hl := len_small (n - 1) w (by omega) (by omega)
  have hb := bitLen_log (x := n - 1) (by omega) (by omega)
  have hb2 := hf_bounds h
  rw [hb] at hl
  have e1 : ((n - 1 : Nat) : Int) = (n : Int) - 1 := by omega
  rw [e1] at hl
  have hk : Nat.log2 (n - 1) < 17 := (Nat.log2_lt (by omega)).2 (by omega)
  unfold hf at *
  generalize Nat.log2 (n - 1) = K at *
  go_enter Tryz.func115, Tryz.ntmps115
  go_wp2_with fail
  refine hl.mono ?_
  rintro e w1 ⟨rfl, rfl⟩
  go_wp2
  go_ret
  refine ⟨?_, rfl⟩
  show Ending.returned (Value.int _ _) = _
  congr 2
  have e2 : ((2 ^ K : Nat) : Int) = (2 : Int) ^ K := by push_cast; rfl
  generalize (2 : Int) ^ K = Z at *
  unfold wrap64
  omega
end Go.Proofs.YtocphdikppeijaaGreat

namespace Go.Proofs.YtocphdikppeijaaGreat
open Go.RowKit
set_option linter.unusedSimpArgs false
set_option linter.unusedVariables false
variable {p b x y : Nat} {T : List ByteArray} {S : List (Int × ByteArray)}

theorem text_mk (t : ByteArray) (w : World) (h : t.size ≤ 1048576) : Calls Tryz.prog 105 #[.string t] w fun e w' => e = .returned (.string ⟨(txtB t).toArray⟩) ∧ Below w.heap.size w w' := by
  have hp := putText_ok t w h
  go_enter Tryz.func105, Tryz.ntmps105
  go_wp2_with fail
  refine hp.mono ?_
  rintro e w1 ⟨rfl, hb⟩
  go_wp2
  go_ret
  exact ⟨rfl, hb⟩

theorem arr_cat (a b : List UInt8) : (⟨a.toArray⟩ : ByteArray) ++ (⟨b.toArray⟩ : ByteArray) = ⟨(a ++ b).toArray⟩ := by
  apply ByteArray.ext; simp
theorem arr_sz (l : List UInt8) : (⟨l.toArray⟩ : ByteArray).size = l.length := by show l.toArray.size = _; simp
theorem leafT_cat (m : Rc) : (⟨#[76]⟩ : ByteArray) ++ (⟨(txtB m.key).toArray⟩ : ByteArray) ++ (⟨(txtB m.dat).toArray⟩ : ByteArray) = leafT m := by
  apply ByteArray.ext; simp [leafT]
theorem nodeT_cat (a b : ByteArray) : (⟨#[78]⟩ : ByteArray) ++ (⟨(txtB a).toArray⟩ : ByteArray) ++ (⟨(txtB b).toArray⟩ : ByteArray) = nodeT a b := by
  apply ByteArray.ext; simp [nodeT]
theorem rootT_cat (n : Nat) (t : ByteArray) : (⟨#[82]⟩ : ByteArray) ++ (⟨(enc n).toArray⟩ : ByteArray) ++ (⟨(txtB t).toArray⟩ : ByteArray) = rootT n t := by
  apply ByteArray.ext; simp [rootT]
theorem leafT_size (m : Rc) (h1 : m.key.size ≤ 1048576) (h2 : m.dat.size ≤ 1048576) : (leafT m).size ≤ 3000000 := by
  unfold leafT; rw [arr_sz]
  have := txtB_len m.key; have := txtB_len m.dat
  simp only [List.length_cons, List.length_append]; omega
theorem nodeT_size (a b : ByteArray) (h1 : a.size ≤ 1048576) (h2 : b.size ≤ 1048576) : (nodeT a b).size ≤ 3000000 := by
  unfold nodeT; rw [arr_sz]
  have := txtB_len a; have := txtB_len b
  simp only [List.length_cons, List.length_append]; omega
theorem rootT_size (n : Nat) (t : ByteArray) (h2 : t.size ≤ 1048576) : (rootT n t).size ≤ 3000000 := by
  unfold rootT; rw [arr_sz]
  have := enc_le n; have := txtB_len t
  simp only [List.length_cons, List.length_append]; omega

theorem keepCell1 {w w' : World} (h : Below w.heap.size w w') {a : Addr} {u : Value} (hc : w.cell? a = some u) : w'.cell? a = some u := (h.cell (World.block_lt_of_cell? w _ hc)).trans hc
theorem chain {w w1 w2 : World} (h : Below w.heap.size w w1) (k : Below w1.heap.size w1 w2) : Below w.heap.size w w2 := h.trans (k.mono h.size)
/-- What a digest that is asked of a book does. -/
structure Asked (x y p b : Nat) (T : List ByteArray) (S : List (Int × ByteArray)) (s : ByteArray) (w : World) (e : Ending) (w' : World) : Prop where
  ret : e = .returned (.string (dig (note T s) s))
  book : Book w' p b x y (note T s) S
  off : Off2 x y w w'

set_option maxHeartbeats 1000000 in
set_option maxRecDepth 100000 in
theorem leafOf_calls (m : Rc) (w : World) (h : Book w p b x y T S) (hT : T.length < 1000000) (h1 : m.key.size ≤ 1048576) (h2 : m.dat.size ≤ 1048576) :
    Calls Tryz.prog 76 #[.pointer (some ⟨p, 0, none⟩), m.val] w (Asked x y p b T S (leafT m) w) := by
  have HX : Hid _ := text_mk
  have HD : Hid _ := fun (wx : World) (hx : Book wx p b x y T S) => bookDigest_calls (leafT m) wx hx hT (Nat.le_trans (leafT_size m h1 h2) (by decide))
  unfold Rc.val
  obtain ⟨W1, hW1, XV, B1, K1⟩ : ∃ W1, w.alloc (.cells #[.string m.key, .string m.dat] 41) = W1 ∧ Blk W1 w.heap.size #[.string m.key, .string m.dat] 41 ∧ Below w.heap.size w W1 ∧ Book W1 p b x y T S :=
    ⟨_, rfl, blk_new _ _ _ _ rfl, by go_grown, h.below (by go_grown)⟩
  have c0 : W1.cell? ⟨w.heap.size, 0, none⟩ = some (.string m.key) := XV.cell rfl
  have c1 : W1.cell? ⟨w.heap.size, 1, none⟩ = some (.string m.dat) := XV.cell rfl
  have zk := arr_sz (txtB m.key)
  have zl := txtB_len m.key
  have zd := arr_sz (txtB m.dat)
  have zm := txtB_len m.dat
  have hcat := leafT_cat m
  have K1d : Book W1.drew p b x y T S := K1.below (Below.refl _ _).drew
  have B1d : Below w.heap.size w W1.drew := B1.drew
  go_enter Tryz.func76, Tryz.ntmps76
  go_wp2_with fail
  go_region_with (first
    | (go_at_call 105; refine Calls.mono (HX.out _ _ (by first | exact h1 | exact h2)) ?_; rintro e w2 ⟨rfl, hb2⟩; have c2 : World.cell? w2 ⟨w.heap.size, 1, none⟩ = some (.string m.dat) := keepCell1 hb2 (by assumption); have K2 : Book w2 p b x y T S := Book.below (by assumption) hb2; have B2 : Below w.heap.size w w2 := chain (by assumption) hb2)
    | (go_at_call 104; refine (HD.out _ (by assumption)).mono ?_; rintro e w3 ⟨rfl, K3, o3⟩))
  all_goals
    go_wp2
    go_ret
    exact ⟨rfl, K3, (Off2.of_below (by assumption)).trans o3⟩

set_option maxHeartbeats 1000000 in
set_option maxRecDepth 100000 in
theorem nodeOf_calls (l r : ByteArray) (w : World) (h : Book w p b x y T S) (hT : T.length < 1000000) (h1 : l.size ≤ 1048576) (h2 : r.size ≤ 1048576) :
    Calls Tryz.prog 116 #[.pointer (some ⟨p, 0, none⟩), .string l, .string r] w (Asked x y p b T S (nodeT l r) w) := by
  have HX : Hid _ := text_mk
  have HD : Hid _ := fun (wx : World) (hx : Book wx p b x y T S) => bookDigest_calls (nodeT l r) wx hx hT (Nat.le_trans (nodeT_size l r h1 h2) (by decide))
  have K1d : Book w.drew p b x y T S := h.below (Below.refl _ _).drew
  have B1d : Below w.heap.size w w.drew := (Below.refl _ _).drew
  have zk := arr_sz (txtB l)
  have zl := txtB_len l
  have zd := arr_sz (txtB r)
  have zm := txtB_len r
  have hcat := nodeT_cat l r
  go_enter Tryz.func116, Tryz.ntmps116
  go_wp2_with fail
  refine (HX.out _ _ h1).mono ?_
  rintro e w1 ⟨rfl, b1⟩
  go_wp2_with fail
  refine (HX.out _ _ h2).mono ?_
  rintro e w2 ⟨rfl, b2⟩
  go_wp2_with fail
  refine (HD.out _ ((h.below b1).below b2)).mono ?_
  rintro e w3 ⟨rfl, K3, o3⟩
  go_wp2
  go_ret
  exact ⟨rfl, K3, (Off2.of_below (chain b1 b2)).trans o3⟩

set_option maxHeartbeats 1000000 in
set_option maxRecDepth 100000 in
theorem rootOf_calls (n : Nat) (t : ByteArray) (w : World) (h : Book w p b x y T S) (hT : T.length < 1000000) (h1 : n ≤ 9007199254740992) (h2 : t.size ≤ 1048576) :
    Calls Tryz.prog 86 #[.pointer (some ⟨p, 0, none⟩), .int .i64 n, .string t] w (Asked x y p b T S (rootT n t) w) := by
  have HX : Hid _ := text_mk
  have HI : Hid _ := putInt_ok
  have HD : Hid _ := fun (wx : World) (hx : Book wx p b x y T S) => bookDigest_calls (rootT n t) wx hx hT (Nat.le_trans (rootT_size n t h2) (by decide))
  have zk := arr_sz (enc n)
  have zl := enc_le n
  have zd := arr_sz (txtB t)
  have zm := txtB_len t
  have hcat := rootT_cat n t
  go_enter Tryz.func86, Tryz.ntmps86
  go_wp2_with fail
  refine (HI.out _ _ h1).mono ?_
  rintro e w1 ⟨rfl, b1⟩
  go_wp2_with fail
  refine (HX.out _ _ h2).mono ?_
  rintro e w2 ⟨rfl, b2⟩
  go_wp2_with fail
  refine (HD.out _ ((h.below b1).below b2)).mono ?_
  rintro e w3 ⟨rfl, K3, o3⟩
  go_wp2
  go_ret
  exact ⟨rfl, K3, (Off2.of_below (chain b1 b2)).trans o3⟩
end Go.Proofs.YtocphdikppeijaaGreat

namespace Go.Proofs.YtocphdikppeijaaGreat
open Go.RowKit
set_option linter.unusedSimpArgs false
set_option linter.unusedVariables false
variable {p b x y : Nat} {T : List ByteArray} {S : List (Int × ByteArray)}

/-- A slice of texts that can be cut: its cells. -/
def Lf (w : World) (v : Value) (ls : List ByteArray) : Prop :=
  ∃ a cap, v = .slice a ls.length cap ∧ ls.length ≤ cap ∧ cap ≤ 9223372036854775807 ∧ ∀ i (h : i < ls.length), ∃ g off, a = some ⟨g, off, none⟩ ∧ w.cell? ⟨g, off + i, none⟩ = some (.string ls[i])
theorem Lf.at {w : World} {v : Value} {ls : List ByteArray} (h : Lf w v ls) (h0 : 0 < ls.length) : ∃ g off cap, v = .slice (some ⟨g, off, none⟩) ls.length cap ∧ ls.length ≤ cap ∧ cap ≤ 9223372036854775807 ∧ ∀ i (h : i < ls.length), w.cell? ⟨g, off + i, none⟩ = some (.string ls[i]) := by
  obtain ⟨a, cap, rfl, hc, hm, hx⟩ := h
  obtain ⟨g, off, rfl, _⟩ := hx 0 h0
  refine ⟨g, off, cap, rfl, hc, hm, fun i hi => ?_⟩
  obtain ⟨g', off', e, h2⟩ := hx i hi
  simp only [Option.some.injEq, Addr.mk.injEq, and_true] at e
  obtain ⟨rfl, rfl⟩ := e
  exact h2
theorem Lf.mk {w : World} {g off cap : Nat} {ls : List ByteArray} (hc : ls.length ≤ cap) (hm : cap ≤ 9223372036854775807) (h : ∀ i (h : i < ls.length), w.cell? ⟨g, off + i, none⟩ = some (.string ls[i])) : Lf w (.slice (some ⟨g, off, none⟩) ls.length cap) ls :=
  ⟨_, cap, rfl, hc, hm, fun i hi => ⟨g, off, rfl, h i hi⟩⟩
theorem Lf.off2 {w w' : World} {v : Value} {ls : List ByteArray} (h : Lf w v ls) (hb : Book w p b x y T S) (ho : Off2 x y w w') : Lf w' v ls := by
  obtain ⟨a, cap, rfl, hc, hm, hx⟩ := h
  exact ⟨a, cap, rfl, hc, hm, fun i hi => by obtain ⟨g, off, e, h2⟩ := hx i hi; exact ⟨g, off, e, keepCell2 hb ho h2⟩⟩
theorem Lf.below {w w' : World} {v : Value} {ls : List ByteArray} (h : Lf w v ls) (ho : Below w.heap.size w w') : Lf w' v ls := by
  obtain ⟨a, cap, rfl, hc, hm, hx⟩ := h
  exact ⟨a, cap, rfl, hc, hm, fun i hi => by obtain ⟨g, off, e, h2⟩ := hx i hi; exact ⟨g, off, e, keepCell ho h2⟩⟩
theorem lf_take {w : World} {g off cap k : Nat} {ls : List ByteArray} (hk : k ≤ ls.length) (hc : ls.length ≤ cap) (hm : cap ≤ 9223372036854775807) (h : ∀ i (h : i < ls.length), w.cell? ⟨g, off + i, none⟩ = some (.string ls[i])) : Lf w (.slice (some ⟨g, off, none⟩) k cap) (ls.take k) := by
  have e : (ls.take k).length = k := by rw [List.length_take]; omega
  have := Lf.mk (w := w) (g := g) (off := off) (cap := cap) (ls := ls.take k) (by omega) hm (fun i hi => by rw [List.getElem_take]; exact h i (by omega))
  rw [e] at this
  exact this
theorem lf_drop {w : World} {g off cap k : Nat} {ls : List ByteArray} (hk : k ≤ ls.length) (hc : ls.length ≤ cap) (hm : cap ≤ 9223372036854775807) (h : ∀ i (h : i < ls.length), w.cell? ⟨g, off + i, none⟩ = some (.string ls[i])) : Lf w (.slice (some ⟨g, off + k, none⟩) (ls.length - k) (cap - k)) (ls.drop k) := by
  have e : (ls.drop k).length = ls.length - k := by rw [List.length_drop]
  have := Lf.mk (w := w) (g := g) (off := off + k) (cap := cap - k) (ls := ls.drop k) (by omega) (by omega) (fun i hi => by rw [List.getElem_drop, Nat.add_assoc]; exact h (k + i) (by omega))
  rw [e] at this
  exact this

/-- What a call that asks digests of a book leaves: more numbered, all else as it was. -/
structure Grew (x y p b : Nat) (T : List ByteArray) (S : List (Int × ByteArray)) (w : World) (c : Nat) (T' : List ByteArray) (w' : World) : Prop where
  ext : Ext T T'
  len : T'.length ≤ T.length + c
  book : Book w' p b x y T' S
  off : Off2 x y w w'
theorem Asked.grew {s : ByteArray} {w w' : World} {e : Ending} (h : Asked x y p b T S s w e w') : Grew x y p b T S w 1 (note T s) w' := ⟨Ext.note T s, note_len T s, h.book, h.off⟩
theorem Grew.trans {T' T'' : List ByteArray} {w w1 w2 : World} {c d : Nat} (h : Grew x y p b T S w c T' w1) (k : Grew x y p b T' S w1 d T'' w2) : Grew x y p b T S w (c + d) T'' w2 :=
  ⟨h.ext.trans k.ext, by have := h.len; have := k.len; omega, k.book, h.off.trans k.off⟩
theorem Grew.refl {w : World} (h : Book w p b x y T S) : Grew x y p b T S w 0 T w := ⟨Ext.refl T, by omega, h, Off2.refl _ _ _⟩
theorem Grew.le {T' : List ByteArray} {w w' : World} {c d : Nat} (h : Grew x y p b T S w c T' w') (hd : c ≤ d) : Grew x y p b T S w d T' w' := ⟨h.ext, by have := h.len; omega, h.book, h.off⟩
theorem Grew.below {T' : List ByteArray} {w w' w'' : World} {c : Nat} (h : Grew x y p b T S w c T' w') (k : Below w'.heap.size w' w'') : Grew x y p b T S w c T' w'' := ⟨h.ext, h.len, h.book.below k, h.off.trans (Off2.of_below k)⟩

set_option maxHeartbeats 4000000 in
set_option maxRecDepth 100000 in
theorem topOf_calls : ∀ (n : Nat) (ls : List ByteArray) (v : Value) (T : List ByteArray) (w : World), ls.length = n → n ≤ 4096 → Lf w v ls → Book w p b x y T S → T.length + n < 1000000 → (∀ s ∈ ls, s.size ≤ 32) →
    Calls Tryz.prog 87 #[.pointer (some ⟨p, 0, none⟩), v] w fun e w' => ∃ a T', e = .returned (.string a) ∧ Top T' ls a ∧ Grew x y p b T S w (n - 1) T' w' := by
  intro n
  induction n using Nat.strongRecOn with
  | _ n ih =>
  intro ls v T w hn hn2 hl hB hT hs
  by_cases h0 : n = 0
  · have e : ls = [] := List.length_eq_zero_iff.1 (by omega)
    subst e
    obtain ⟨a, cap, rfl, _⟩ := hl
    go_enter Tryz.func87, Tryz.ntmps87
    go_wp2
    go_ret
    exact ⟨_, T, rfl, .none, (Grew.refl hB).le (Nat.zero_le _)⟩
  by_cases h1 : n = 1
  · obtain ⟨g, off, cap, rfl, hc, hm, hx⟩ := hl.at (by omega)
    obtain ⟨s, rfl⟩ := List.length_eq_one_iff.1 (hn.trans h1)
    have c0 := hx 0 (by simp)
    simp only [List.getElem_cons_zero, Nat.add_zero] at c0
    go_enter Tryz.func87, Tryz.ntmps87
    go_wp2
    go_ret
    exact ⟨_, T, rfl, .one _, (Grew.refl hB).le (Nat.zero_le _)⟩
  have h2 : 2 ≤ n := by omega
  obtain ⟨g, off, cap, rfl, hc, hm, hx⟩ := hl.at (by omega)
  obtain ⟨hk1, hk2⟩ := hf_bounds h2
  have hsp := fun wx => split_calls n wx h2 (by omega)
  have hL := lf_take (k := hf n) (by omega) hc hm hx
  have hR := lf_drop (k := hf n) (by omega) hc hm hx
  rw [hn] at hc ⊢ hR
  have d0 : decide ((n : Int) = 0) = false := by simp only [decide_eq_false_iff_not]; omega
  have d1 : decide ((n : Int) = 1) = false := by simp only [decide_eq_false_iff_not]; omega
  have HS : Hid _ := hsp
  clear hsp hx hl
  go_enter Tryz.func87, Tryz.ntmps87
  go_wp2_with fail
  refine (HS.out _).mono ?_
  rintro e w1 ⟨rfl, rfl⟩
  go_wp2_with fail
  have hd : Below w1.heap.size w1 w1.drew := (Below.refl _ _).drew
  have H1 := ih (hf n) hk2 _ _ T w1.drew (by rw [List.length_take]; omega) (by omega) (hL.below hd) (hB.below hd) (by omega) (fun s h => hs s (List.mem_of_mem_take h))
  have H2 := fun (T1 : List ByteArray) (wx : World) (G1 : Grew x y p b T S w1.drew (hf n - 1) T1 wx) => ih (n - hf n) (by omega) _ _ T1 wx (by rw [List.length_drop]; omega) (by omega) ((hR.below hd).off2 (hB.below hd) G1.off) G1.book (by have := G1.len; omega) (fun s h => hs s (List.mem_of_mem_drop h))
  have H3 := fun (T2 : List ByteArray) (wx : World) (a1 a2 : ByteArray) (h : Book wx p b x y T2 S) (h2 : T2.length < 1000000) (t1 : Top T2 (ls.take (hf n)) a1) (t2 : Top T2 (ls.drop (hf n)) a2) => nodeOf_calls a1 a2 wx h h2 (Nat.le_trans (t1.small (fun s h => hs s (List.mem_of_mem_take h))) (by decide)) (Nat.le_trans (t2.small (fun s h => hs s (List.mem_of_mem_drop h))) (by decide))
  have HH1 : Hid _ := H1
  have HH2 : Hid _ := H2
  have HH3 : Hid _ := H3
  clear H1 H2 H3 ih
  refine wp_region_any (by kernel_rfl) ?_
  change wpAny _ _ _ _ _ _ _ (World.drew _)
  refine wpAny_take (i := 0) (v := (.pointer (some ⟨p, 0, none⟩))) rfl (by kernel_rfl) (by kernel_rfl) (by kernel_rfl) (fun _ _ _ h => h) (Or.inl ⟨by rfl, fun w => by go_simp⟩) ?_
  refine wpAny_take (i := 1) (v := (.pointer (some ⟨p, 0, none⟩))) rfl (by kernel_rfl) (by kernel_rfl) (by kernel_rfl) (fun _ _ _ h => h) (Or.inl ⟨by rfl, fun w => by go_simp⟩) ?_
  refine wpAny_take (i := 2) (v := (.slice (some ⟨g, off, none⟩) n cap)) rfl (by kernel_rfl) (by kernel_rfl) (by kernel_rfl) (fun _ _ _ h => h) (Or.inl ⟨by rfl, fun w => by go_simp⟩) ?_
  refine wpAny_take (i := 3) (v := (.int .i64 (hf n))) rfl (by kernel_rfl) (by kernel_rfl) (by kernel_rfl) (fun _ _ _ h => h) (Or.inl ⟨by rfl, fun w => by go_simp⟩) ?_
  refine wpAny_take (i := 4) (v := (.slice (some ⟨g, off, none⟩) (hf n) cap)) rfl (by kernel_rfl) (by kernel_rfl) (by kernel_rfl) (fun _ _ _ h => h) (Or.inl ⟨by rfl, fun w => by go_simp; intro h; omega⟩) ?_
  refine wpAny_take (i := 6) (v := (.pointer (some ⟨p, 0, none⟩))) rfl (by kernel_rfl) (by kernel_rfl) (by kernel_rfl) (fun _ _ _ h => h) (Or.inl ⟨by rfl, fun w => by go_simp⟩) ?_
  refine wpAny_take (i := 7) (v := (.slice (some ⟨g, off, none⟩) n cap)) rfl (by kernel_rfl) (by kernel_rfl) (by kernel_rfl) (fun _ _ _ h => h) (Or.inl ⟨by rfl, fun w => by go_simp⟩) ?_
  refine wpAny_take (i := 8) (v := (.int .i64 (hf n))) rfl (by kernel_rfl) (by kernel_rfl) (by kernel_rfl) (fun _ _ _ h => h) (Or.inl ⟨by rfl, fun w => by go_simp⟩) ?_
  refine wpAny_take (i := 9) (v := (.slice (some ⟨g, off + hf n, none⟩) (n - hf n) (cap - hf n))) rfl (by kernel_rfl) (by kernel_rfl) (by kernel_rfl) (fun _ _ _ h => h) (Or.inl ⟨by rfl, fun w => by go_simp; rw [if_pos (by omega), if_neg (by omega)]⟩) ?_
  refine wpAny_ready (rs := [5]) (by kernel_rfl) (by simp) ?_
  refine AllReady.cons rfl (fun K hK => ?_) AllReady.nil
  go_simp
  refine Calls.mono HH1.out ?_
  rintro e w2 ⟨a1, T1, rfl, t1, G1⟩
  refine hK _ _ ?_
  clear hK
  have l1 := G1.len
  refine wpAny_ready (rs := [10]) (by kernel_rfl) (by simp) ?_
  refine AllReady.cons rfl (fun K hK => ?_) AllReady.nil
  go_simp
  refine Calls.mono (HH2.out _ _ G1) ?_
  rintro e w3 ⟨a2, T2, rfl, t2, G2⟩
  refine hK _ _ ?_
  clear hK
  have l2 := G2.len
  have t1' := t1.ext G2.ext
  refine wpAny_ready (rs := [11]) (by kernel_rfl) (by simp) ?_
  refine AllReady.cons rfl (fun K hK => ?_) AllReady.nil
  go_simp
  refine (HH3.out T2 _ a1 a2 G2.book (by omega) t1' t2).mono ?_
  rintro e w4 A
  obtain rfl := A.ret
  refine hK _ _ ?_
  clear hK
  refine wpAny_ready (rs := [12]) (by kernel_rfl) (by simp) ?_
  refine AllReady.cons rfl (fun K hK => ?_) AllReady.nil
  go_simp
  refine hK _ _ ?_
  clear hK
  refine wpAny_done (by kernel_rfl) ?_ _
  go_wp2
  go_ret
  have G0 : Grew x y p b T S w1 0 T w1.drew := (Grew.refl hB).below hd
  refine ⟨_, rfl, _, ?_, (((G0.trans G1).trans G2).trans A.grew).le (by omega)⟩
  have n1 := Ext.note T2 (nodeT a1 a2)
  subst hn
  exact .node ls a1 a2 (by omega) (t1'.ext n1) (t2.ext n1) (mem_noted _ _)
end Go.Proofs.YtocphdikppeijaaGreat
