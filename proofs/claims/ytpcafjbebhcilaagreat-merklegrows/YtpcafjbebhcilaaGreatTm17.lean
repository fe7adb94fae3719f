/- Proofs as bytes. -/
import Derived.Test.YtpcafjbebhcilaaGreatTm16
namespace Go.Proofs.YtpcafjbebhcilaaGreat
open Go.RowKit
set_option linter.unusedVariables false
set_option linter.unusedSimpArgs false

theorem ptOk_parts {x : Pt} (h : ptOk x = true) : (0 ≤ x.idx ∧ x.idx ≤ 4095) ∧ x.key.size ≤ 64 ∧ x.dat.size ≤ 4096 ∧ x.sides.length ≤ 13 ∧ ∀ t ∈ x.sides, t.size ≤ 32 := by
  simp only [ptOk, Bool.and_eq_true, decide_eq_true_eq] at h
  obtain ⟨h1, h2, h3, h4, h5⟩ := h
  exact ⟨h1, h2, h3, h4, fun t ht => of_decide_eq_true (List.all_eq_true.1 h5 t ht)⟩

theorem sides_len {l : List ByteArray} (h : ∀ t ∈ l, t.size ≤ 32) (hl : l.length ≤ 13) (k : Nat) : ((l.take k).flatMap txtB).length ≤ 546 := by
  have h1 := flatMap_len txtB 42 (l.take k) (fun t ht => by have := txtB_len t; have := h t (List.mem_of_mem_take ht); omega)
  have h2 : (l.take k).length ≤ 13 := by rw [List.length_take]; omega
  omega

set_option maxRecDepth 100000 in
set_option maxHeartbeats 1000000 in
theorem layPath_calls (w0 : World) (v : Value) (len : Nat) (xs : List Value) (x : Pt) (sv : Value) (w : World) (hok : ptOk x = true) (hs : Strs w0 sv x.sides) (hw : Below w0.heap.size w0 w)
    (hown : w.ownsRow w0.heap.size 5 1 v len xs) (hlen : len ≤ 1000000000) :
    Calls Tryz.prog 99 #[v, x.val sv] w fun e w' => ∃ v', e = .returned v' ∧ w'.ownsRow w0.heap.size 5 1 v' (len + (ptB x).length) (xs ++ Lib.byteCells (ptB x)) ∧ Below w0.heap.size w w' ∧ Kp w w' := by
  obtain ⟨⟨f0, f1⟩, f2, f3, f4, f5⟩ := ptOk_parts hok
  have hz := hw.size
  have HS : Hid _ := hs
  obtain ⟨p, c, rfl⟩ := hs.len
  clear hs
  obtain ⟨i, k, d, l⟩ := x
  simp only at f0 f1 f2 f3 f4 f5 HS
  obtain ⟨n, rfl⟩ := Int.eq_ofNat_of_zero_le f0
  have HF : Hid _ := f5
  have HB : Hid (Blk (w.alloc (.cells #[.int .i64 (n : Int), .string k, .string d, .slice p l.length c] 80)) w.heap.size #[.int .i64 (n : Int), .string k, .string d, .slice p l.length c] 80) := blk_new w w.heap.size _ _ rfl
  have hB0 : Below w0.heap.size w (w.alloc (.cells #[.int .i64 (n : Int), .string k, .string d, .slice p l.length c] 80)) := (Below.refl _ _).alloc hz _
  have hK0 : Kp w (w.alloc (.cells #[.int .i64 (n : Int), .string k, .string d, .slice p l.length c] 80)) := Kp.of_below ((Below.refl _ _).alloc (Nat.le_refl _) _)
  have e1 := enc_le n
  have e2 := enc_le l.length
  have t1 := txtB_len k
  have t2 := txtB_len d
  have h1 := layInt_calls w0.heap.size v len xs n (w.alloc (.cells #[.int .i64 (n : Int), .string k, .string d, .slice p l.length c] 80)) (by omega) (hown.alloc _) (by omega) (by simp; omega)
  have hfinal : Hid (ptB ⟨(n : Int), k, d, l⟩ = (enc n ++ ((enc k.size ++ k.data.toList) ++ ((enc d.size ++ d.data.toList) ++ enc l.length))) ++ l.flatMap txtB) := by show _ = _; simp [ptB, txtB]
  unfold txtB at t1 t2
  unfold Pt.val
  simp only
  clear f5 hok
  go_enter Tryz.func99, Tryz.ntmps99
  go_wp2_with fail
  refine h1.mono ?_
  rintro e w1 ⟨v1, rfl, o1, b1, k1⟩
  have x1 := k1.cell (o := 0) HB.out (by decide)
  have c1 := cellOf (o := 1) x1 rfl
  have z1 := b1.size
  simp at z1
  have X1 : Hid _ := x1
  clear x1
  go_wp2_with fail
  refine (layText_calls w0.heap.size v1 _ _ k _ (by omega) o1 (by omega) (by omega)).mono ?_
  rintro e w2 ⟨v2, rfl, o2, b2, k2⟩
  have x2 := k2.cell (o := 0) X1.out (by decide)
  have c2 := cellOf (o := 2) x2 rfl
  have z2 := b2.size
  have X2 : Hid _ := x2
  clear x2 c1 X1
  go_wp2_with fail
  refine (layText_calls w0.heap.size v2 _ _ d _ (by omega) o2 (by omega) (by omega)).mono ?_
  rintro e w3 ⟨v3, rfl, o3, b3, k3⟩
  have x3 := k3.cell (o := 0) X2.out (by decide)
  have c3 := cellOf (o := 3) x3 rfl
  have z3 := b3.size
  have X3 : Hid _ := x3
  clear x3 c2 X2
  go_wp2_with fail
  refine (layInt_calls w0.heap.size v3 _ _ l.length w3 (by omega) o3 (by omega) (by omega)).mono ?_
  rintro e w4 ⟨v4, rfl, o4, b4, k4⟩
  have x4 := k4.cell (o := 0) X3.out (by decide)
  have c4 := cellOf (o := 3) x4 rfl
  have z4 := b4.size
  clear x4 c3 X3
  have B4 : Below w0.heap.size w w4 := (((hB0.trans b1).trans b2).trans b3).trans b4
  have K4 : Kp w w4 := (((hK0.trans k1).trans k2).trans k3).trans k4
  obtain ⟨Z, hZ⟩ : ∃ Z, Z = enc n ++ ((enc k.size ++ k.data.toList) ++ ((enc d.size ++ d.data.toList) ++ enc l.length)) := ⟨_, rfl⟩
  have hZl : Z.length ≤ 5000 := by rw [hZ]; simp only [List.length_append] at t1 t2 ⊢; omega
  have o5 : w4.ownsRow w0.heap.size 5 1 v4 (len + Z.length) (xs ++ Lib.byteCells Z) := by
    rw [hZ]
    simp only [byteCells_append, List.length_append, List.append_assoc] at o4 ⊢
    simpa only [Nat.add_assoc] using o4
  have HZ : Hid (ptB ⟨(n : Int), k, d, l⟩ = Z ++ l.flatMap txtB) := by show _ = _; rw [hZ]; exact hfinal.out
  clear hZ hfinal o4 o1 o2 o3 h1 t1 t2
  go_wp2
  go_loopw [0, 27] (fun o i wr => ∃ j : Nat, j ≤ l.length ∧ i = .int .i64 j ∧ wr.ownsRow w0.heap.size 5 1 o (len + (Z ++ (l.take j).flatMap txtB).length) (xs ++ Lib.byteCells (Z ++ (l.take j).flatMap txtB)) ∧ Below w0.heap.size w wr ∧ Kp w wr) (fun _ i _ => l.length - (intOf i).toNat)
  case atStart => exact ⟨0, Nat.zero_le _, rfl, by simpa using o5, B4, K4⟩
  case round =>
    obtain ⟨j, hj, rfl, ho, hb, hkp⟩ := hrel
    have hB := hw.trans hb
    have hz1 := hB.size
    clear o5
    by_cases hlt : j < l.length
    · have hd : decide ((j : Int) < l.length) = true := by simp only [decide_eq_true_eq]; omega
      rcases HS.out with ⟨_, hn⟩ | ⟨b, off, cap, hv, hc⟩
      · rw [hn] at hlt; simp at hlt
      · simp only [Value.slice.injEq] at hv
        obtain ⟨rfl, _, rfl⟩ := hv
        obtain ⟨y1, zz⟩ := hc j hlt
        have hbl := World.block_lt_of_cell? w0 _ y1
        have g1 := (hB.cell (p := ⟨b, off + j, none⟩) hbl).trans y1
        have hsl := sides_len HF.out f4 j
        have hts := HF.out l[j] (List.getElem_mem hlt)
        have HL : Hid (Z ++ (l.take (j + 1)).flatMap txtB = (Z ++ (l.take j).flatMap txtB) ++ txtB l[j]) := by show _ = _; rw [take_flat txtB l j hlt, List.append_assoc]
        have hlen0 : (Z ++ (l.take j).flatMap txtB).length ≤ 6000 := by rw [List.length_append]; omega
        clear y1 hc
        generalize l[j] = t at g1 hts HL zz
        generalize Z ++ (l.take j).flatMap txtB = Y at *
        go_wp2_with fail
        refine (layText_calls w0.heap.size _ _ _ t wr (by omega) ho (by omega) (by omega)).mono ?_
        rintro e w5 ⟨v5, rfl, o6, b5, k5⟩
        go_wp2
        go_roundw
        case rel =>
          refine ⟨j + 1, by omega, by go_num, ?_, hb.trans b5, hkp.trans k5⟩
          rw [HL.out]
          unfold txtB
          simp only [byteCells_append, List.length_append, List.append_assoc] at o6 ⊢
          simpa only [Nat.add_assoc] using o6
        case measure => simp [intOf]; omega
    · have hd : decide ((j : Int) < l.length) = false := by simp only [decide_eq_false_iff_not]; omega
      have htk : l.take j = l := List.take_of_length_le (by omega)
      rw [htk, ← HZ.out] at ho
      clear htk
      go_wp2
      go_ret
      exact ⟨_, rfl, ho, hb, hkp⟩

def proofR (p : Pf) : Array Value := if pfOk p = true then #[.string ⟨(pfB p).toArray⟩, .int .i64 0] else #[.string ⟨#[]⟩, .int .i64 14]

theorem pfOk_parts {x : Pf} (h : pfOk x = true) : (0 ≤ x.cnt ∧ x.cnt ≤ 4096) ∧ x.paths.length ≤ 2 ∧ ∀ t ∈ x.paths, ptOk t = true := by
  simp only [pfOk, Bool.and_eq_true, decide_eq_true_eq] at h
  obtain ⟨h1, h2, h3⟩ := h
  exact ⟨h1, h2, fun t ht => List.all_eq_true.1 h3 t ht⟩

set_option maxRecDepth 100000 in
set_option maxHeartbeats 1000000 in
theorem putProof_calls (x : Pf) (lv : Value) (w : World) (hs : Pts w lv x.paths) :
    Calls Tryz.prog 82 #[x.val lv] w fun e w' => e = .returned (.tuple (proofR x)) ∧ Below w.heap.size w w' := by
  have hnot : ∀ (x : Bool) (w : World), (Op.unary .not (.bool x)).run Tryz.prog w = .ok (.bool (!x)) w := fun _ _ => rfl
  have hip := fun wx (hb : Below w.heap.size w wx) => isProof_calls x lv wx (hs.below hb)
  have HI : Hid _ := hip
  obtain ⟨p, c, rfl⟩ := hs.len
  have HS : Hid _ := hs
  clear hs hip
  obtain ⟨cnt, l⟩ := x
  simp only at HS
  unfold Pf.val at HI ⊢
  simp only at HI ⊢
  cases hok : pfOk ⟨cnt, l⟩ with
  | false =>
    have hfin : Hid (proofR ⟨cnt, l⟩ = #[.string ⟨#[]⟩, .int .i64 14]) := by show _ = _; unfold proofR; rw [hok]; rfl
    rw [hok] at HI
    go_enter Tryz.func82, Tryz.ntmps82
    go_wp2_with fail
    refine (HI.out _ (by go_grown)).mono ?_
    rintro e w1 ⟨rfl, b1⟩
    go_wp2
    go_ret2
    exact ⟨by rw [hfin.out]; rfl, (show Below w.heap.size w _ by go_grown).trans (b1.mono (by simp))⟩
  | true =>
    have hfin : Hid (proofR ⟨cnt, l⟩ = #[.string ⟨(pfB ⟨cnt, l⟩).toArray⟩, .int .i64 0]) := by show _ = _; unfold proofR; rw [hok]; rfl
    obtain ⟨⟨f0, f1⟩, f2, f3⟩ := pfOk_parts hok
    rw [hok] at HI
    simp only at f0 f1 f2 f3
    obtain ⟨n, rfl⟩ := Int.eq_ofNat_of_zero_le f0
    have HF : Hid _ := f3
    have e1 := enc_le n
    have e2 := enc_le l.length
    have X0 := blk_new w w.heap.size #[.int .i64 (n : Int), .slice p l.length c] 36 rfl
    have HZ : Hid (pfB ⟨(n : Int), l⟩ = (enc n ++ enc l.length) ++ l.flatMap ptB) := by show _ = _; unfold pfB; simp
    clear f3 hok
    go_enter Tryz.func82, Tryz.ntmps82
    go_wp2_with fail
    refine (HI.out _ (by go_grown)).mono ?_
    rintro e w1 ⟨rfl, b1⟩
    have X1 := X0.below b1
    have B1 : Below w.heap.size w w1 := (show Below w.heap.size w _ by go_grown).trans (b1.mono (by simp))
    have c0 := X1.cell (o := 0) rfl
    have c1 := X1.cell (o := 1) rfl
    have hlt1 := X1.lt
    have HX : Hid _ := X1
    clear X0 X1
    go_wp2_with fail
    refine (layInt_calls w.heap.size (.slice none 0 0) 0 [] n w1 (by omega) (World.ownsRow_nil _ _ _ _) (by omega) (by omega)).mono ?_
    rintro e w2 ⟨v2, rfl, o2, b2, k2⟩
    have X2 := k2.cell (o := 0) HX.out (by decide)
    clear c0 c1
    have c1 := cellOf (o := 1) X2 rfl
    have z2 := b2.size
    have HX2 : Hid _ := X2
    clear X2
    go_wp2_with fail
    refine (layInt_calls w.heap.size v2 _ _ l.length w2 (by omega) o2 (by omega) (by omega)).mono ?_
    rintro e w3 ⟨v3, rfl, o3, b3, k3⟩
    have X3 := k3.cell (o := 0) HX2.out (by decide)
    clear c1
    have c1 := cellOf (o := 1) X3 rfl
    have B3 := (B1.trans b2).trans b3
    have o4 : w3.ownsRow w.heap.size 5 1 v3 (enc n ++ enc l.length).length (Lib.byteCells (enc n ++ enc l.length)) := by
      simp only [byteCells_append, List.length_append, List.nil_append, Nat.zero_add] at o3 ⊢
      exact o3
    have hZl : (enc n ++ enc l.length).length ≤ 20 := by rw [List.length_append]; omega
    clear o3
    generalize enc n ++ enc l.length = Z at *
    go_wp2
    go_loopw [4, 21] (fun o i wr => ∃ j : Nat, j ≤ l.length ∧ i = .int .i64 j ∧ wr.ownsRow w.heap.size 5 1 o (Z ++ (l.take j).flatMap ptB).length (Lib.byteCells (Z ++ (l.take j).flatMap ptB)) ∧ Below w.heap.size w wr) (fun _ i _ => l.length - (intOf i).toNat)
    case atStart => exact ⟨0, Nat.zero_le _, rfl, by simpa using o4, B3⟩
    case round =>
      obtain ⟨j, hj, rfl, ho, hb⟩ := hrel
      have hz := hb.size
      clear o4 c1
      by_cases hlt : j < l.length
      · have hd : decide ((j : Int) < l.length) = true := by simp only [decide_eq_true_eq]; omega
        rcases HS.out with ⟨_, hn⟩ | ⟨b, off, cap, hv, hc⟩
        · rw [hn] at hlt; simp at hlt
        · simp only [Value.slice.injEq] at hv
          obtain ⟨rfl, _, rfl⟩ := hv
          obtain ⟨sv, c1, c2, c3, c4, hS, _⟩ := hc j hlt
          have hbl := World.block_lt_of_cell? w _ c1
          have g1 := (hb.cell (p := ⟨b, off + j * 4, none⟩) hbl).trans c1
          have g2 := (hb.cell (p := ⟨b, off + j * 4 + 1, none⟩) hbl).trans c2
          have g3 := (hb.cell (p := ⟨b, off + j * 4 + 2, none⟩) hbl).trans c3
          have g4 := (hb.cell (p := ⟨b, off + j * 4 + 3, none⟩) hbl).trans c4
          have hpk := HF.out l[j] (List.getElem_mem hlt)
          have hln : ((l.take j).flatMap ptB).length ≤ 12000 := by
            have h1 := flatMap_len ptB 6000 (l.take j) (fun t ht => ptB_len (HF.out t (List.mem_of_mem_take ht)))
            have h2 : (l.take j).length ≤ 2 := by rw [List.length_take]; omega
            omega
          have HL : Hid (Z ++ (l.take (j + 1)).flatMap ptB = (Z ++ (l.take j).flatMap ptB) ++ ptB l[j]) := by show _ = _; rw [take_flat ptB l j hlt, List.append_assoc]
          have hlen0 : (Z ++ (l.take j).flatMap ptB).length ≤ 13000 := by rw [List.length_append]; omega
          clear c1 c2 c3 c4 hc
          generalize l[j] = t at g1 g2 g3 g4 hS hpk HL
          generalize Z ++ (l.take j).flatMap ptB = Y at *
          have hB1 := hb.alloc hz (.cells #[.int .i64 t.idx, .string t.key, .string t.dat, sv] 80)
          have hlp := layPath_calls w _ _ _ t sv _ hpk hS hB1 (ho.alloc _) (by omega)
          obtain ⟨ps, cs, rfl⟩ := hS.len
          have HP : Hid _ := hlp
          unfold Pt.val at HP
          clear hS hlp
          go_wp2_with fail
          refine Calls.mono HP.out ?_
          rintro e w5 ⟨v5, rfl, o6, b5, k5⟩
          go_wp2
          go_roundw
          case rel =>
            refine ⟨j + 1, by omega, by go_num, ?_, hB1.trans b5⟩
            rw [HL.out, List.length_append, byteCells_append]
            exact o6
          case measure => simp [intOf]; omega
      · have hd : decide ((j : Int) < l.length) = false := by simp only [decide_eq_false_iff_not]; omega
        have htk : l.take j = l := List.take_of_length_le (by omega)
        rw [htk, ← HZ.out] at ho
        have hcv := own_convert ho
        clear htk
        go_wp2
        go_ret2
        exact ⟨by rw [hfin.out]; rfl, hb⟩
end Go.Proofs.YtpcafjbebhcilaaGreat
