/- Laying lists and bodies: Bytes. -/
import Derived.Test.YtocphdikppeijaaGreatLy06
namespace Go.Proofs.YtocphdikppeijaaGreat
open Go.RowKit
set_option linter.unusedVariables false
set_option linter.unusedSimpArgs false

theorem shape_client {k : Int} {s : Sh} (h : shape k = some s) : s.client ≤ 15 := by
  by_cases hk : 1 ≤ k ∧ k ≤ 13
  · obtain ⟨n, rfl⟩ := Int.eq_ofNat_of_zero_le (show 0 ≤ k by omega)
    have hn : n = 1 ∨ n = 2 ∨ n = 3 ∨ n = 4 ∨ n = 5 ∨ n = 6 ∨ n = 7 ∨ n = 8 ∨ n = 9 ∨ n = 10 ∨ n = 11 ∨ n = 12 ∨ n = 13 := by omega
    rcases hn with rfl | rfl | rfl | rfl | rfl | rfl | rfl | rfl | rfl | rfl | rfl | rfl | rfl <;> (simp [shape, shapeN] at h; subst h; decide)
  · rw [shape_other k hk] at h; cases h

theorem sgsB_take (l : List Sg) (k : Nat) (h : k < l.length) : sgsB (l.take (k + 1)) = sgsB (l.take k) ++ sgB l[k] := by
  unfold sgsB
  rw [List.take_succ_eq_append_getElem h, List.flatMap_append]; simp

theorem sgsB_len (l : List Sg) (h : l.all sgOk = true) : (sgsB l).length ≤ l.length * 1048700 := by
  induction l with
  | nil => simp [sgsB]
  | cons m l ih =>
    simp only [List.all_cons, Bool.and_eq_true] at h
    have h1 := sgB_len m h.1
    have h2 := ih h.2
    have e : sgsB (m :: l) = sgB m ++ sgsB l := by simp [sgsB]
    rw [e, List.length_append, List.length_cons]; omega

theorem sgsB_take_len (l : List Sg) (h : l.all sgOk = true) (k : Nat) (hl : l.length ≤ 64) : (sgsB (l.take k)).length ≤ 67116800 := by
  have h1 : (l.take k).all sgOk = true := by
    rw [List.all_eq_true] at h ⊢
    exact fun x hx => h x (List.mem_of_mem_take hx)
  have h2 := sgsB_len _ h1
  have h3 : (l.take k).length ≤ 64 := by rw [List.length_take]; omega
  have h4 : (l.take k).length * 1048700 ≤ 64 * 1048700 := Nat.mul_le_mul_right _ h3
  omega

set_option maxHeartbeats 1000000 in
theorem layList_calls (w0 : World) (v : Value) (len : Nat) (xs : List Value) (lv : Value) (l : List Sg) (w : World) (hall : l.all sgOk = true) (hl : l.length ≤ 64) (hs : Sgs w0 lv l) (hw : Below w0.heap.size w0 w)
    (hown : w.ownsRow w0.heap.size 5 1 v len xs) (hlen : len ≤ 1000000000) :
    Calls Tryz.prog 85 #[v, lv] w fun e w' => ∃ v', e = .returned v' ∧ w'.ownsRow w0.heap.size 5 1 v' (len + (enc l.length ++ sgsB l).length) (xs ++ Lib.byteCells (enc l.length ++ sgsB l)) ∧ Below w0.heap.size w w' ∧ Kp w w' := by
  have hz := hw.size
  have h1 := layInt_calls w0.heap.size v len xs l.length w (by omega) hown (by omega) (by omega)
  have el := enc_le l.length
  rcases hs with ⟨⟨pz, cz, rfl⟩, rfl⟩ | ⟨b, off, cap, rfl, hc⟩
  · go_enter Tryz.func85, Tryz.ntmps85
    go_wp2_with fail
    refine h1.mono ?_
    rintro e w1 ⟨v1, rfl, o1, b1, k1⟩
    go_wp2
    refine wp_loop_rounds 1 ?_
    rw [rounds_succ]
    go_wp2
    go_ret
    exact ⟨v1, rfl, by simpa [sgsB] using o1, b1, k1⟩
  · have HC : Hid _ := hc
    have HA : Hid (l.all sgOk = true) := hall
    have HT : Hid (∀ k, (sgsB (l.take k)).length ≤ 67116800) := fun k => sgsB_take_len l hall k hl
    clear hc hall
    go_enter Tryz.func85, Tryz.ntmps85
    go_wp2_with fail
    refine h1.mono ?_
    rintro e w1 ⟨v1, rfl, o1, b1, k1⟩
    go_wp2
    go_loopw [0, 13] (fun o i wr => ∃ k : Nat, k ≤ l.length ∧ i = .int .i64 k ∧ wr.ownsRow w0.heap.size 5 1 o (len + (enc l.length ++ sgsB (l.take k)).length) (xs ++ Lib.byteCells (enc l.length ++ sgsB (l.take k))) ∧ Below w0.heap.size w wr ∧ Kp w wr) (fun _ i _ => l.length - (intOf i).toNat)
    case atStart => exact ⟨0, Nat.zero_le _, rfl, by simpa [sgsB] using o1, b1, k1⟩
    case round =>
      obtain ⟨k, hk, rfl, ho, hb, hkp⟩ := hrel
      have hB := hw.trans hb
      have hz1 := hB.size
      by_cases hlt : k < l.length
      · have hd : decide ((k : Int) < l.length) = true := by simp only [decide_eq_true_eq]; omega
        obtain ⟨c1, c2, c3, z1, z2⟩ := HC.out k hlt
        have hbl := World.block_lt_of_cell? w0 _ c1
        have d1 := (hB.cell (p := ⟨b, off + k * 3, none⟩) hbl).trans c1
        have d2 := (hB.cell (p := ⟨b, off + k * 3 + 1, none⟩) hbl).trans c2
        have d3 := (hB.cell (p := ⟨b, off + k * 3 + 2, none⟩) hbl).trans c3
        have hok : sgOk l[k] = true := (List.all_eq_true.1 HA.out) _ (List.getElem_mem hlt)
        have htk := HT.out k
        have ht1 := sgsB_take l k hlt
        have HL : Hid _ := ht1
        have HO : Hid _ := hok
        have hcall := laySigned_calls w0.heap.size _ _ _ l[k] (wr.alloc (.cells #[.int .i64 l[k].frm, .string l[k].body, .string l[k].sig] 49)) hok (ho.alloc _) (by rw [List.length_append]; omega) (by simp; omega)
        clear c1 c2 c3 ht1 hok
        go_wp2_with fail
        refine hcall.mono ?_
        rintro e w2 ⟨v2, rfl, o2, b2, k2⟩
        go_wp2
        go_roundw
        case rel =>
          refine ⟨k + 1, by omega, by go_num, ?_, (hb.alloc (by omega) _).trans b2, (hkp.trans (Kp.of_below ((Below.refl _ _).alloc (Nat.le_refl _) _))).trans k2⟩
          rw [HL.out]
          simp only [byteCells_append, List.length_append, List.append_assoc] at o2 ⊢
          simpa only [Nat.add_assoc] using o2
        case measure => simp [intOf]; omega
      · have hd : decide ((k : Int) < l.length) = false := by simp only [decide_eq_false_iff_not]; omega
        have htk : l.take k = l := List.take_of_length_le (by omega)
        rw [htk] at ho
        clear htk
        go_wp2
        go_ret
        exact ⟨_, rfl, ho, hb, hkp⟩

def bdB (b : Bd) : List UInt8 := enc b.kind.toNat ++ (enc b.view.toNat ++ (enc b.seq.toNat ++ (enc b.client.toNat ++ (enc b.stamp.toNat ++ (txtB b.digest ++ (txtB b.text ++ (enc b.list.length ++ sgsB b.list)))))))

/-- What Bytes answers. -/
def bytesR (b : Bd) : Array Value :=
  if right b = 0 then (if 1048576 < (bdB b).length then #[.string ⟨#[]⟩, .int .i64 4] else #[.string ⟨(bdB b).toArray⟩, .int .i64 0])
  else #[.string ⟨#[]⟩, .int .i64 (right b)]

theorem right_ok {b : Bd} (h : right b = 0) : (1 ≤ b.kind ∧ b.kind ≤ 13) ∧ (0 ≤ b.view ∧ b.view ≤ 1048576) ∧ (0 ≤ b.seq ∧ b.seq ≤ 1073741824) ∧ (0 ≤ b.client ∧ b.client ≤ 15) ∧ (0 ≤ b.stamp ∧ b.stamp ≤ 1099511627776) ∧ b.digest.size ≤ 32 ∧ b.text.size ≤ 1048576 ∧ b.list.length ≤ 64 ∧ b.list.all sgOk = true := by
  unfold right at h
  cases hs : shape b.kind with
  | none => rw [hs] at h; simp at h
  | some s =>
    obtain ⟨hev, htx, hli⟩ := shape_bounds hs
    have hcl := shape_client hs
    rw [hs] at h
    simp only at h
    have hk : 1 ≤ b.kind ∧ b.kind ≤ 13 := by
      rcases Classical.em (1 ≤ b.kind ∧ b.kind ≤ 13) with h1 | h1
      · exact h1
      · rw [shape_other _ h1] at hs; cases hs
    split at h
    · simp at h
    · rename_i hbad
      simp only [Bool.or_eq_true, Bool.not_eq_true', not_or, Bool.not_eq_false] at hbad
      obtain ⟨⟨_, h1⟩, h2⟩ := hbad
      unfold fitsN at h1
      unfold fitsT at h2
      simp only [Bool.and_eq_true, decide_eq_true_eq] at h1 h2
      refine ⟨hk, h1.1.1.1.1, h1.1.1.1.2, ⟨h1.1.2.1, by omega⟩, h1.2, h2.1.1.1, by omega, by omega, h2.2⟩

set_option maxHeartbeats 2000000 in
theorem bytes_calls (b : Bd) (lv : Value) (w : World) (h1 : b.digest.size ≤ maxLen) (h2 : b.text.size ≤ maxLen) (h3 : b.list.length < 9223372036854775807) (hl : Sgs w lv b.list) :
    Calls Tryz.prog 47 #[b.val lv] w fun e w' => e = .returned (.tuple (bytesR b)) ∧ Below w.heap.size w w' := by
  have hR := fun wx (hb : Below w.heap.size w wx) => right_calls b lv wx h1 h2 h3 (hl.below hb)
  have HR : Hid _ := hR
  clear hR
  have hnew := bdAt_new w b lv 54
  have hbox : (w.alloc (.cells #[.int .i64 b.kind, .int .i64 b.view, .int .i64 b.seq, .int .i64 b.client, .int .i64 b.stamp, .string b.digest, .string b.text, lv] 54)).heap[w.heap.size]? = some (.cells #[.int .i64 b.kind, .int .i64 b.view, .int .i64 b.seq, .int .i64 b.client, .int .i64 b.stamp, .string b.digest, .string b.text, lv] 54) := heap_alloc_new w _
  have HBX : Hid _ := hbox
  clear hbox
  obtain ⟨pl, cl, rfl⟩ := hl.len
  unfold bytesR
  by_cases hok : right b = 0
  · obtain ⟨hk, hv, hsq, hc, hst, hdg, htx, hll, hal⟩ := right_ok hok
    rw [if_pos hok]
    rw [hok] at HR
    clear hok
    obtain ⟨bk, bv, bs, bc, bst, bd, bt, bl⟩ := b
    simp only at *
    obtain ⟨n0, rfl⟩ := Int.eq_ofNat_of_zero_le (show 0 ≤ bk by omega)
    obtain ⟨n1, rfl⟩ := Int.eq_ofNat_of_zero_le hv.1
    obtain ⟨n2, rfl⟩ := Int.eq_ofNat_of_zero_le hsq.1
    obtain ⟨n3, rfl⟩ := Int.eq_ofNat_of_zero_le hc.1
    obtain ⟨n4, rfl⟩ := Int.eq_ofNat_of_zero_le hst.1
    have i0 : ∀ w, (Instr.index 99 (.agg #[.int .i64 (n0 : Int), .int .i64 (n1 : Int), .int .i64 (n2 : Int), .int .i64 (n3 : Int), .int .i64 (n4 : Int)]) (.int .i64 0)).run Tryz.prog w = .ok (.int .i64 (n0 : Int)) w := fun _ => by kernel_rfl
    have i1 : ∀ w, (Instr.index 99 (.agg #[.int .i64 (n0 : Int), .int .i64 (n1 : Int), .int .i64 (n2 : Int), .int .i64 (n3 : Int), .int .i64 (n4 : Int)]) (.int .i64 1)).run Tryz.prog w = .ok (.int .i64 (n1 : Int)) w := fun _ => by kernel_rfl
    have i2 : ∀ w, (Instr.index 99 (.agg #[.int .i64 (n0 : Int), .int .i64 (n1 : Int), .int .i64 (n2 : Int), .int .i64 (n3 : Int), .int .i64 (n4 : Int)]) (.int .i64 2)).run Tryz.prog w = .ok (.int .i64 (n2 : Int)) w := fun _ => by kernel_rfl
    have i3 : ∀ w, (Instr.index 99 (.agg #[.int .i64 (n0 : Int), .int .i64 (n1 : Int), .int .i64 (n2 : Int), .int .i64 (n3 : Int), .int .i64 (n4 : Int)]) (.int .i64 3)).run Tryz.prog w = .ok (.int .i64 (n3 : Int)) w := fun _ => by kernel_rfl
    have i4 : ∀ w, (Instr.index 99 (.agg #[.int .i64 (n0 : Int), .int .i64 (n1 : Int), .int .i64 (n2 : Int), .int .i64 (n3 : Int), .int .i64 (n4 : Int)]) (.int .i64 4)).run Tryz.prog w = .ok (.int .i64 (n4 : Int)) w := fun _ => by kernel_rfl
    have e0 := enc_le n0
    have e1 := enc_le n1
    have e2 := enc_le n2
    have e3 := enc_le n3
    have e4 := enc_le n4
    have t5 := txtB_len bd
    have t6 := txtB_len bt
    have hsl := sgsB_take_len bl hal bl.length hll
    rw [List.take_length] at hsl
    have HAL : Hid (bl.all sgOk = true) := hal
    clear hal
    have hll' := enc_le bl.length
    unfold Bd.val
    go_enter Tryz.func47, Tryz.ntmps47
    go_wp2_with fail
    refine (HR.out _ (by go_grown)).mono ?_
    rintro e w1 ⟨rfl, hb1⟩
    have hA1 := hnew.below hb1
    have hB1 : Below w.heap.size w w1 := (show Below w.heap.size w _ by go_grown).trans (hb1.mono (by simp))
    have hX1 := (hb1.block w.heap.size (by simp)).trans HBX.out
    have HX1 : Hid _ := hX1
    clear hX1 hnew
    obtain ⟨a0, a1, a2, a3, a4, a5, a6, a7, a8⟩ := hA1
    simp only at a0 a1 a2 a3 a4 a5 a6
    go_wp2
    refine wp_loop_rounds 6 ?_
    rw [rounds_succ]
    go_wp2_with fail
    clear a0 a1 a2 a3 a4 a5 a6 a7
    have z1 := hB1.size
    refine (layInt_calls w.heap.size _ _ _ n0 w1 (by omega) (World.ownsRow_nil _ _ _ _) (by omega) (by omega)).mono ?_
    rintro e w2 ⟨v1, rfl, o1, b1, k1⟩
    have z2 := b1.size
    go_wp2
    rw [rounds_succ]
    go_wp2_with fail
    refine (layInt_calls w.heap.size _ _ _ n1 w2 (by omega) o1 (by omega) (by omega)).mono ?_
    rintro e w3 ⟨v2, rfl, o2, b2, k2⟩
    have z3 := b2.size
    go_wp2
    rw [rounds_succ]
    go_wp2_with fail
    refine (layInt_calls w.heap.size _ _ _ n2 w3 (by omega) o2 (by omega) (by omega)).mono ?_
    rintro e w4 ⟨v3, rfl, o3, b3, k3⟩
    have z4 := b3.size
    go_wp2
    rw [rounds_succ]
    go_wp2_with fail
    refine (layInt_calls w.heap.size _ _ _ n3 w4 (by omega) o3 (by omega) (by omega)).mono ?_
    rintro e w5 ⟨v4, rfl, o4, b4, k4⟩
    have z5 := b4.size
    go_wp2
    rw [rounds_succ]
    go_wp2_with fail
    refine (layInt_calls w.heap.size _ _ _ n4 w5 (by omega) o4 (by omega) (by omega)).mono ?_
    rintro e w6 ⟨v5, rfl, o5, b5, k5⟩
    have z6 := b5.size
    have kk := (((k1.trans k2).trans k3).trans k4).trans k5
    have x5 := kk.cell (o := 0) HX1.out (by decide)
    have c5 := cellOf (o := 5) x5 rfl
    have X5 : Hid _ := x5
    clear x5
    go_wp2
    rw [rounds_succ]
    go_wp2_with fail
    refine (layText_calls w.heap.size _ _ _ bd w6 (by omega) o5 (by omega) (by omega)).mono ?_
    rintro e w7 ⟨v6, rfl, o6, b6, k6⟩
    have z7 := b6.size
    have x6 := k6.cell (o := 0) X5.out (by decide)
    have c6 := cellOf (o := 6) x6 rfl
    have X6 : Hid _ := x6
    clear x6 c5
    go_wp2_with fail
    refine (layText_calls w.heap.size _ _ _ bt w7 (by omega) o6 ?_ (by omega)).mono ?_
    · unfold txtB at t5; omega
    rintro e w8 ⟨v7, rfl, o7, b7, k7⟩
    have z8 := b7.size
    have x7 := k7.cell (o := 0) X6.out (by decide)
    have c7 := cellOf (o := 7) x7 rfl
    clear x7 c6
    have hBw : Below w.heap.size w w8 := ((((((hB1.trans b1).trans b2).trans b3).trans b4).trans b5).trans b6).trans b7
    go_wp2_with fail
    refine (layList_calls w _ _ _ _ bl w8 HAL.out hll hl hBw o7 ?_).mono ?_
    · unfold txtB at t5 t6; omega
    rintro e w9 ⟨v8, rfl, o8, b8, k8⟩
    have heq : bdB ⟨n0, n1, n2, n3, n4, bd, bt, bl⟩ = enc n0 ++ (enc n1 ++ (enc n2 ++ (enc n3 ++ (enc n4 ++ ((enc bd.size ++ bd.data.toList) ++ ((enc bt.size ++ bt.data.toList) ++ (enc bl.length ++ sgsB bl))))))) := by simp [bdB, txtB]
    have o9 : w9.ownsRow w.heap.size 5 1 v8 (bdB ⟨n0, n1, n2, n3, n4, bd, bt, bl⟩).length (Lib.byteCells (bdB ⟨n0, n1, n2, n3, n4, bd, bt, bl⟩)) := by
      rw [heq]
      simp only [byteCells_append, List.length_append, List.append_assoc, List.nil_append, Nat.zero_add] at o8 ⊢
      simpa only [Nat.add_assoc] using o8
    have hlen : (bdB ⟨n0, n1, n2, n3, n4, bd, bt, bl⟩).length ≤ 1000000000000 := by
      rw [heq]
      unfold txtB at t5 t6
      simp only [List.length_append] at t5 t6 ⊢
      omega
    clear heq
    have hfit := fit_calls w.heap.size v8 _ w9 o9 hlen
    go_wp2_with fail
    refine hfit.mono ?_
    rintro e w10 ⟨rfl, rfl⟩
    by_cases hL : 1048576 < (bdB ⟨n0, n1, n2, n3, n4, bd, bt, bl⟩).length
    · rw [if_pos hL]
      go_wp2
      go_ret2
      first | exact ⟨rfl, hBw.trans b8⟩ | exact ⟨by rw [if_pos hL]; rfl, hBw.trans b8⟩
    · rw [if_neg hL]
      go_wp2
      go_ret2
      first | exact ⟨rfl, hBw.trans b8⟩ | exact ⟨by rw [if_neg hL]; rfl, hBw.trans b8⟩
  · have hb : (right b != 0) = true := by simpa using hok
    rw [if_neg hok]
    unfold Bd.val
    go_enter Tryz.func47, Tryz.ntmps47
    go_wp2_with fail
    refine (HR.out _ (by go_grown)).mono ?_
    rintro e w1 ⟨rfl, hb1⟩
    go_wp2
    go_ret2
    exact ⟨rfl, (show Below w.heap.size w _ by go_grown).trans (hb1.mono (by simp))⟩
end Go.Proofs.YtocphdikppeijaaGreat
