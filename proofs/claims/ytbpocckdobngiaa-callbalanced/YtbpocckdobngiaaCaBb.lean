/- A clearing buys as much as it sells: the walk. -/
import Derived.Test.YtbpocckdobngiaaCaBa
import Derived.Test.YtbpocckdobngiaaCaV
namespace Go.Proofs.Ytbpocckdobngiaa
open Go.Shelf Go.RowKit Go.Lib Go.Sort
set_option linter.unusedSimpArgs false
set_option linter.unusedVariables false

theorem keepBb {w w' : World} (hb : Below w.heap.size w w') {a : Addr} {u : Value} (h : w.cell? a = some u) : w'.cell? a = some u := (hb.cell (World.block_lt_of_cell? w _ h)).trans h
theorem take_snoc {α : Type} {l : List α} {k : Nat} {x : α} (h : l[k]? = some x) : l.take (k + 1) = l.take k ++ [x] := by rw [List.take_add_one, h]; rfl

set_option maxHeartbeats 8000000 in
set_option maxRecDepth 100000 in
theorem side_calls (bb : Bool) (oc fc : Option Addr) (ocap fcap : Nat) (os : List Od) (fl : List Fi) (w : World) (ho : os.length ≤ 64) (hf : fl.length ≤ 128) (hfa : ∀ f ∈ fl, 0 ≤ f.2.2 ∧ f.2.2 ≤ 1048576)
    (hw : ∀ (k : Nat) (x : Od), os[k]? = some x → ∃ r, oc = some ⟨r, 0, none⟩ ∧ ∀ (j : Nat) (u : Value), (oC x)[j]? = some u → w.cell? ⟨r, k * 6 + j, none⟩ = some u)
    (hc : ∀ (k : Nat) (x : Fi), fl[k]? = some x → ∃ r, fc = some ⟨r, 0, none⟩ ∧ ∀ (j : Nat) (u : Value), (fC x)[j]? = some u → w.cell? ⟨r, k * 3 + j, none⟩ = some u) :
    Calls Try.prog 7 #[.slice oc os.length ocap, .slice fc fl.length fcap, .bool bb] w fun e w' => e = .returned (.int .i64 (sdS os bb fl)) ∧ Below w.heap.size w w' := by
  have HW : Hid _ := hw
  have HC : Hid _ := hc
  have HFA : Hid _ := hfa
  clear hw hc hfa
  go_enter Try.func7, Try.ntmps7
  go_wp2
  go_loopw [7, 8] (fun nv iv wr => ∃ (i : Nat) (z : Int), i ≤ fl.length ∧ iv = .int .i64 i ∧ nv = .int .i64 z ∧ Hid (z = sdS os bb (fl.take i)) ∧ 0 ≤ z ∧ z ≤ 8589934592 ∧ Hid (Below w.heap.size w wr)) (fun _ iv _ => fl.length - (intOf iv).toNat)
  case atStart => exact ⟨0, 0, Nat.zero_le _, rfl, rfl, rfl, by omega, by omega, Below.refl _ _⟩
  case round =>
    obtain ⟨i, z, hi, rfl, rfl, HZ, hz0, hz1, HB⟩ := hrel
    by_cases hlt : i < fl.length
    · have hil : (i : Int) < (fl.length : Int) := by omega
      obtain ⟨f, hfx⟩ : ∃ f, fl[i]? = some f := ⟨fl[i], by simp [hlt]⟩
      obtain ⟨gF, rfl, hfc⟩ := HC.out i f hfx
      have hfa := HFA.out f (List.mem_of_getElem? hfx)
      have HFC : Hid _ := hfc
      have HFX : Hid _ := hfx
      clear hfc hfx
      go_wp2
      go_loopw [7, 9] (fun nv kv w4 => ∃ (k : Nat) (y : Int), k ≤ os.length ∧ kv = .int .i64 k ∧ nv = .int .i64 y ∧ Hid (y = z + sdR bb f (os.take k)) ∧ 0 ≤ y ∧ y ≤ z + k * 1048576 ∧ Hid (Below w.heap.size w w4)) (fun _ kv _ => os.length - (intOf kv).toNat)
      case atStart => exact ⟨0, z, Nat.zero_le _, rfl, rfl, (by show z = z + 0; omega), hz0, by omega, HB⟩
      case round =>
        obtain ⟨w4, hw4⟩ : ∃ w4, w4 = wr := ⟨_, rfl⟩
        subst hw4
        obtain ⟨k, y, hk, rfl, rfl, HY, hy0, hy1, HB4⟩ := hrel
        by_cases hlk : k < os.length
        · have hkl : (k : Int) < (os.length : Int) := by omega
          obtain ⟨x, hx⟩ : ∃ x, os[k]? = some x := ⟨os[k], by simp [hlk]⟩
          obtain ⟨r, rfl, hcx⟩ := HW.out k x hx
          have c0 : w4.cell? ⟨r, k * 6, none⟩ = some (.int .i64 x.id) := keepBb HB4.out (hcx 0 _ rfl)
          have c5 : w4.cell? ⟨r, k * 6 + 5, none⟩ = some (.bool x.by) := keepBb HB4.out (hcx 5 _ rfl)
          have d0 : w4.cell? ⟨gF, i * 3, none⟩ = some (.int .i64 f.1) := keepBb HB4.out (HFC.out 0 _ rfl)
          have d2 : w4.cell? ⟨gF, i * 3 + 2, none⟩ = some (.int .i64 f.2.2) := keepBb HB4.out (HFC.out 2 _ rfl)
          have HT : Hid (sdR bb f (os.take (k + 1)) = sdR bb f (os.take k) + (if x.id = f.1 ∧ x.by = bb then f.2.2 else 0)) := by show _ = _; rw [take_snoc hx, sdR_app]; simp [sdR]
          clear hcx hx
          by_cases e1 : x.id = f.1
          · have g1 : (x.id == f.1) = true := by simpa using e1
            have g2 : decide (x.id = f.1) = true := decide_eq_true e1
            by_cases e2 : x.by = bb
            · have g3 : (x.by == bb) = true := by simpa using e2
              have HN : Hid (sdR bb f (os.take (k + 1)) = sdR bb f (os.take k) + f.2.2) := by have := HT.out; rw [if_pos ⟨e1, e2⟩] at this; exact this
              clear e1 e2 HT
              have rw1 : IntKind.i64.wrap (y + f.2.2) = y + f.2.2 := by rw [IntKind.wrap_i64]; omega
              go_wp2_with fail
              go_quiet (fail)
              go_wp2
              exact ⟨⟨k + 1, y + f.2.2, by omega, by norm_cast, rfl, (by have h1 := HY.out; have h2 := HN.out; show y + f.2.2 = _; rw [h2, h1]; omega), by omega, by push_cast; omega, below_drewN HB4.out _⟩, by simp [intOf]; omega⟩
            · have g3 : (x.by == bb) = false := by simpa using e2
              have HN : Hid (sdR bb f (os.take (k + 1)) = sdR bb f (os.take k)) := by have := HT.out; rw [if_neg (fun e => e2 e.2)] at this; show _ = _; omega
              clear e1 e2 HT
              go_wp2_with fail
              go_quiet (fail)
              go_wp2
              exact ⟨⟨k + 1, y, by omega, by norm_cast, rfl, (by have h1 := HY.out; have h2 := HN.out; show y = _; rw [h2]; exact h1), by omega, by push_cast; omega, below_drewN HB4.out _⟩, by simp [intOf]; omega⟩
          · have g1 : (x.id == f.1) = false := by simpa using e1
            have g2 : decide (x.id = f.1) = false := decide_eq_false e1
            have HN : Hid (sdR bb f (os.take (k + 1)) = sdR bb f (os.take k)) := by have := HT.out; rw [if_neg (fun e => e1 e.1)] at this; show _ = _; omega
            clear e1 HT
            go_wp2_with fail
            go_quiet (fail)
            go_wp2
            exact ⟨⟨k + 1, y, by omega, by norm_cast, rfl, (by have h1 := HY.out; have h2 := HN.out; show y = _; rw [h2]; exact h1), by omega, by push_cast; omega, below_drewN HB4.out _⟩, by simp [intOf]; omega⟩
        · have hkl : ¬ (k : Int) < (os.length : Int) := by omega
          have hsn : Hid (y = sdS os bb (fl.take (i + 1))) := by
            have h1 := HY.out
            rw [List.take_of_length_le (by omega)] at h1
            show y = _
            rw [take_snoc HFX.out, sdS_app, h1, HZ.out]
            simp [sdS]
          have hbd := sdS_bd os bb ho (fl.take (i + 1)) (fun g hg => HFA.out g (List.mem_of_mem_take hg))
          rw [← hsn.out, List.length_take] at hbd
          go_wp2
          exact ⟨⟨i + 1, y, by omega, by norm_cast, rfl, hsn, by omega, by omega, HB4⟩, by simp [intOf]; omega⟩
    · have hil : ¬ (i : Int) < (fl.length : Int) := by omega
      have h1 := HZ.out
      rw [List.take_of_length_le (by omega)] at h1
      have HE : Hid _ := h1
      clear h1
      go_wp2
      go_ret
      exact ⟨by rw [HE.out]; rfl, HB.out⟩

set_option maxHeartbeats 32000000 in
set_option maxRecDepth 100000 in
theorem balanced_calls (sv : Value) (l : List Ac) (w : World) (hl : Acs w sv l) (hn : l.length * 56 ≤ 140737488351232) :
    Calls Try.prog 3 #[sv] w fun e w' => e = .returned (.bool true) ∧ Below w.heap.size w w' := by
  have HBG : Hid _ := begun_calls sv l w hl hn
  have HA : Hid _ := awake_calls
  obtain ⟨B, hBe⟩ : ∃ B, runs l 100 = B := ⟨_, rfl⟩
  rw [hBe] at HBG
  obtain ⟨ad, cap, rfl, hc⟩ := Elems.any hl
  clear hc hl hBe
  go_enter Try.func3, Try.ntmps3
  go_wp2_with fail
  refine Calls.mono HBG.out ?_
  rintro e w1 ⟨rfl, v1, K1, b1⟩
  have HI : Hid _ := K1.inv
  have hz1 := b1.size
  have HO2 : Hid _ := orders_calls w1 K1
  have HK1 : Hid _ := K1
  clear K1
  go_wp2_with fail
  refine Calls.mono HO2.out ?_
  rintro e w2 ⟨v2, rfl, own2, b2⟩
  have hz2 := b2.size
  have HK2 : Hid _ := Bk.below HK1.out b2
  have HC3 : Hid _ := clear_calls w2 HK2.out (by omega)
  obtain ⟨cp, hcp⟩ : ∃ cp, (crs B.os).1 = cp := ⟨_, rfl⟩
  obtain ⟨cn, hcn⟩ : ∃ cn, (crs B.os).2 = cn := ⟨_, rfl⟩
  rw [hcp, hcn] at HC3
  have hcn0 : 0 ≤ cn := by rw [← hcn]; exact crs_nn HI.out
  have HSD : Hid (∀ b, sdS B.os b B.fl = cn) := fun b => by rw [← hcn]; exact side_true HI.out b
  have HCP : Hid _ := hcp
  clear hcp hcn
  obtain ⟨oc, ocap, rfl⟩ := own_form own2
  have HOW2 : Hid _ := own2
  clear own2
  go_wp2_with fail
  refine Calls.mono HC3.out ?_
  rintro e w3 ⟨vF, v3, rfl, own3, S3⟩
  obtain ⟨fc, fcap, rfl⟩ := own_form own3
  have HK3 : Hid _ := S3.bk
  have BW3 : Hid _ := S3.below HK2.out (b1.trans (b2.mono hz1)) (by omega)
  have HWC : Hid (∀ (k : Nat) (x : Od), B.os[k]? = some x → ∃ r, oc = some ⟨r, 0, none⟩ ∧ ∀ (j : Nat) (u : Value), (oC x)[j]? = some u → w3.cell? ⟨r, k * 6 + j, none⟩ = some u) := by
    intro k x hx
    obtain ⟨r, hr⟩ : ∃ r, oc = some ⟨r, 0, none⟩ := by
      rcases HOW2.out.2 with ⟨h1, h2⟩ | ⟨g, cap, cur, h1, _⟩
      · exfalso
        have := (List.getElem?_eq_some_iff.1 hx).1
        omega
      · injection h1 with h1 _ _; exact ⟨g, h1⟩
    refine ⟨r, hr, fun j u hu => ?_⟩
    have q := World.ownsRow.cells (w := w2) HOW2.out (g := r) (by rw [hr]; rfl) (k * 6 + j) u (odL_get _ k j x u hx hu)
    rw [Addr.add_lit, Nat.zero_add] at q
    have hlt := World.ownsRow.lt (w := w2) HOW2.out r (by rw [hr]; rfl)
    exact S3.of.cell q (by have := Blk.lt HK1.out.blk; show r ≠ w.heap.size; omega) (fun e => by have := (HK1.out.row.lt _ e).2; have hh : r < w1.heap.size := this; omega)
  have HFC : Hid (∀ (k : Nat) (x : Fi), B.fl[k]? = some x → ∃ r, fc = some ⟨r, 0, none⟩ ∧ ∀ (j : Nat) (u : Value), (fC x)[j]? = some u → w3.cell? ⟨r, k * 3 + j, none⟩ = some u) := by
    intro k x hx
    obtain ⟨r, hr⟩ : ∃ r, fc = some ⟨r, 0, none⟩ := by
      rcases own3.2 with ⟨h1, h2⟩ | ⟨g, cap, cur, h1, _⟩
      · exfalso
        have := (List.getElem?_eq_some_iff.1 hx).1
        omega
      · injection h1 with h1 _ _; exact ⟨g, h1⟩
    refine ⟨r, hr, fun j u hu => ?_⟩
    have q := World.ownsRow.cells (w := w3) own3 (g := r) (by rw [hr]; rfl) (k * 3 + j) u (fiL_get _ k j x u hx hu)
    rw [Addr.add_lit, Nat.zero_add] at q
    exact q
  have hFl : B.fl.length ≤ 128 := fl_len B
  have hOl : B.os.length ≤ 64 := HI.out.len
  have HO4 : Hid _ := orders_calls w3 S3.bk
  clear own3 S3 HBG HO2 HC3 HOW2
  go_wp2_with fail
  refine Calls.mono HO4.out ?_
  rintro e w4 ⟨v4, rfl, own4, b4⟩
  obtain ⟨nc, ncap, rfl⟩ := own_form own4
  have HSI : Hid (∀ (bb : Bool) (wx : World), Below w3.heap.size w3 wx → Calls Try.prog 7 #[.slice oc B.os.length ocap, .slice fc B.fl.length fcap, .bool bb] wx fun e w' => e = .returned (.int .i64 cn) ∧ Below wx.heap.size wx w') := fun bb wx hb => by
    have q := side_calls bb oc fc ocap fcap B.os B.fl wx hOl hFl (fun f hf => fl_am HI.out hf) (fun k x hx => by obtain ⟨r, e, h⟩ := HWC.out k x hx; exact ⟨r, e, fun j u hu => keepBb hb (h j u hu)⟩) (fun k x hx => by obtain ⟨r, e, h⟩ := HFC.out k x hx; exact ⟨r, e, fun j u hu => keepBb hb (h j u hu)⟩)
    rw [HSD.out bb] at q
    exact q
  have dn : decide (cn < 0) = false := decide_eq_false (by omega)
  have HLE : Hid (B.clr.os.length ≤ B.os.length) := clr_len B
  have HB4 : Hid _ := b4
  clear own4 HO4
  go_wp2_with fail
  refine Calls.mono (HSI.out true w4 HB4.out) ?_
  rintro e w5 ⟨rfl, b5⟩
  have HB5 : Hid (Below w3.heap.size w3 w5) := Below.trans HB4.out (b5.mono (Below.size HB4.out))
  go_wp2_with fail
  refine Calls.mono (HSI.out false w5 HB5.out) ?_
  rintro e w6 ⟨rfl, b6⟩
  have HB6 : Hid (Below w3.heap.size w3 w6) := Below.trans HB5.out (b6.mono (Below.size HB5.out))
  clear HSI HSD b5 b6 b4
  go_wp2
  go_loopw [9] (fun iv wr => ∃ i : Nat, i ≤ B.os.length ∧ iv = .int .i64 i ∧ Hid (Below w3.heap.size w3 wr)) (fun iv _ => B.os.length - (intOf iv).toNat)
  case atStart => exact ⟨0, Nat.zero_le _, rfl, HB6⟩
  case round =>
    obtain ⟨i, hi, rfl, HB⟩ := hrel
    by_cases hlt : i < B.os.length
    · have hil : (i : Int) < (B.os.length : Int) := by omega
      obtain ⟨x, hx⟩ : ∃ x, B.os[i]? = some x := ⟨B.os[i], by simp [hlt]⟩
      have HX : Hid _ := List.mem_of_getElem? hx
      obtain ⟨r, rfl, hcx⟩ := HWC.out i x hx
      have HCX : Hid _ := hcx
      have hbd := got_bd HI.out (crs B.os).1 (crs B.os).2 HX.out
      have hmay := HI.out.may x HX.out
      unfold mayB at hmay
      simp only [Bool.and_eq_true, decide_eq_true_eq] at hmay
      have ham : 1 ≤ x.am ∧ x.am ≤ 1048576 := hmay.2
      clear hcx hx hmay
      go_wp2
      go_loopw [10, 11] (fun gv kv w7 => ∃ (k : Nat) (g : Int), k ≤ B.fl.length ∧ kv = .int .i64 k ∧ gv = .int .i64 g ∧ Hid (g = got (B.fl.take k) x.id) ∧ 0 ≤ g ∧ g ≤ x.am ∧ Hid (Below w3.heap.size w3 w7)) (fun _ kv _ => B.fl.length - (intOf kv).toNat)
      case atStart => exact ⟨0, 0, Nat.zero_le _, rfl, rfl, rfl, by omega, by omega, HB⟩
      case round =>
        obtain ⟨w7, hw7⟩ : ∃ w7, w7 = wr := ⟨_, rfl⟩
        subst hw7
        obtain ⟨k, g, hk, rfl, rfl, HG, hg0, hg1, HB7⟩ := hrel
        have hx0 : w7.cell? ⟨r, i * 6, none⟩ = some (.int .i64 x.id) := keepBb HB7.out (HCX.out 0 _ rfl)
        have hx1 : w7.cell? ⟨r, i * 6 + 1, none⟩ = some (.int .i64 x.own) := keepBb HB7.out (HCX.out 1 _ rfl)
        have hx2 : w7.cell? ⟨r, i * 6 + 2, none⟩ = some (.int .i64 x.pr) := keepBb HB7.out (HCX.out 2 _ rfl)
        by_cases hlk : k < B.fl.length
        · have hkl : (k : Int) < (B.fl.length : Int) := by omega
          obtain ⟨f, hf⟩ : ∃ f, B.fl[k]? = some f := ⟨B.fl[k], by simp [hlk]⟩
          obtain ⟨gF, rfl, hcf⟩ := HFC.out k f hf
          have f0 : w7.cell? ⟨gF, k * 3, none⟩ = some (.int .i64 f.1) := keepBb HB7.out (hcf 0 _ rfl)
          have f1 : w7.cell? ⟨gF, k * 3 + 1, none⟩ = some (.int .i64 f.2.1) := keepBb HB7.out (hcf 1 _ rfl)
          have f2 : w7.cell? ⟨gF, k * 3 + 2, none⟩ = some (.int .i64 f.2.2) := keepBb HB7.out (hcf 2 _ rfl)
          have HT : Hid (got (B.fl.take (k + 1)) x.id = got (B.fl.take k) x.id + (if f.1 = x.id then f.2.2 else 0)) := got_snoc hf _
          have hgt := got_take HI.out (crs B.os).1 (crs B.os).2 (k + 1) HX.out
          have HGT : Hid (0 ≤ got (B.fl.take (k + 1)) x.id ∧ got (B.fl.take (k + 1)) x.id ≤ x.am) := hgt
          have HFM : Hid _ := List.mem_of_getElem? hf
          clear hcf hf hgt
          by_cases e1 : f.1 = x.id
          · have g1 : (f.1 == x.id) = true := by simpa using e1
            have g2 : decide (f.1 = x.id) = true := decide_eq_true e1
            have HN : Hid (got (B.fl.take (k + 1)) x.id = g + f.2.2) := by have h1 := HT.out; rw [if_pos e1] at h1; have h2 := HG.out; show _ = _; rw [h1, h2]
            have hn1 : 0 ≤ g + f.2.2 ∧ g + f.2.2 ≤ x.am := by have h1 := HGT.out; rw [HN.out] at h1; exact h1
            obtain ⟨k1, k2, k3, k4, k5⟩ := fl_of HI.out HFM.out HX.out e1
            rw [HCP.out] at k4 k5
            have a1 : decide (f.2.2 < 1) = false := decide_eq_false (by omega)
            have a2 : (f.2.1 == x.own) = true := by simpa using k3
            have a3 : decide (f.2.1 = x.own) = true := decide_eq_true k3
            have a4 : (f.2.1 != x.own) = false := by rw [bne, a2]; rfl
            have rw1 : IntKind.i64.wrap (g + f.2.2) = g + f.2.2 := by rw [IntKind.wrap_i64]; omega
            have x5 : w7.cell? ⟨r, i * 6 + 5, none⟩ = some (.bool x.by) := keepBb HB7.out (HCX.out 5 _ rfl)
            obtain ⟨bx, hbx⟩ : ∃ bx, x.by = bx := ⟨_, rfl⟩
            rw [hbx] at k4 k5 x5
            clear hbx e1 HT k3 HGT
            cases bx
            · have k6 := k5 rfl
              have a5 : decide (cp < x.pr) = false := decide_eq_false (by omega)
              clear k4 k5
              go_wp2_with fail
              go_region
              go_wp2_with fail
              go_quiet (fail)
              go_wp2
              exact ⟨⟨k + 1, g + f.2.2, by omega, by norm_cast, rfl, HN.out.symm, by omega, by omega, below_drewN HB7.out _⟩, by simp [intOf]; omega⟩
            · have k6 := k4 rfl
              have a5 : decide (x.pr < cp) = false := decide_eq_false (by omega)
              clear k4 k5
              go_wp2_with fail
              go_region
              go_wp2_with fail
              go_quiet (fail)
              go_wp2
              exact ⟨⟨k + 1, g + f.2.2, by omega, by norm_cast, rfl, HN.out.symm, by omega, by omega, below_drewN HB7.out _⟩, by simp [intOf]; omega⟩
          · have g1 : (f.1 == x.id) = false := by simpa using e1
            have g2 : decide (f.1 = x.id) = false := decide_eq_false e1
            have HN : Hid (got (B.fl.take (k + 1)) x.id = g) := by have h1 := HT.out; rw [if_neg e1] at h1; have h2 := HG.out; show _ = _; rw [h1, h2]; omega
            clear e1 HT
            go_wp2_with fail
            go_region
            go_wp2
            exact ⟨⟨k + 1, g, by omega, by norm_cast, rfl, HN.out.symm, by omega, by omega, Below.drew HB7.out⟩, by simp [intOf]; omega⟩
        · have hkl : ¬ (k : Int) < (B.fl.length : Int) := by omega
          have hgf : g = got B.fl x.id := by have := HG.out; rwa [List.take_of_length_le (by omega)] at this
          have hcg := clr_get HI.out HX.out
          rw [← hgf] at hcg
          have x3 : w7.cell? ⟨r, i * 6 + 3, none⟩ = some (.int .i64 x.am) := keepBb HB7.out (HCX.out 3 _ rfl)
          have HQ := get_calls x.id w7 (Bk.below HK3.out HB7.out)
          clear hgf HG hbd
          have a1 : decide (x.am < g) = false := decide_eq_false (by omega)
          by_cases hlt2 : g < x.am
          · have a2 : decide (g < x.am) = true := decide_eq_true hlt2
            rw [hcg.1 hlt2] at HQ
            have HQ2 : Hid (Calls Try.prog 8 #[.pointer (some ⟨w.heap.size, 0, none⟩), .int .i64 x.id] w7 fun e w' => e = .returned (.tuple #[.agg #[.int .i64 x.id, .int .i64 x.own, .int .i64 x.pr, .int .i64 (x.am - g), .int .i64 x.pl, .bool x.by], .bool true]) ∧ Below w7.heap.size w7 w') := HQ
            have rw2 : IntKind.i64.wrap (x.am - g) = x.am - g := by rw [IntKind.wrap_i64]; omega
            clear HQ hcg
            go_wp2_with fail
            refine Calls.mono HQ2.out ?_
            rintro e w8 ⟨rfl, b8⟩
            obtain ⟨W9, hW9, X9, B9⟩ : ∃ W9, (w8.alloc (.cells #[.int .i64 x.id, .int .i64 x.own, .int .i64 x.pr, .int .i64 (x.am - g), .int .i64 x.pl, .bool x.by] 34)) = W9 ∧ Blk W9 w8.heap.size #[.int .i64 x.id, .int .i64 x.own, .int .i64 x.pr, .int .i64 (x.am - g), .int .i64 x.pl, .bool x.by] 34 ∧ Below w8.heap.size w8 W9 :=
              ⟨_, rfl, blk_new _ _ _ _ rfl, by go_grown⟩
            have HB8 : Hid (Below w3.heap.size w3 w8) := Below.trans HB7.out (b8.mono (Below.size HB7.out))
            have HB9 : Hid (Below w3.heap.size w3 W9) := Below.trans HB8.out (B9.mono (Below.size HB8.out))
            have y2 : W9.cell? ⟨r, i * 6 + 2, none⟩ = some (.int .i64 x.pr) := keepBb HB9.out (HCX.out 2 _ rfl)
            have y3 : W9.cell? ⟨r, i * 6 + 3, none⟩ = some (.int .i64 x.am) := keepBb HB9.out (HCX.out 3 _ rfl)
            have y4 : W9.cell? ⟨r, i * 6 + 4, none⟩ = some (.int .i64 x.pl) := keepBb HB9.out (HCX.out 4 _ rfl)
            have z2 : W9.cell? ⟨w8.heap.size, 2, none⟩ = some (.int .i64 x.pr) := X9.cell rfl
            have z3 : W9.cell? ⟨w8.heap.size, 3, none⟩ = some (.int .i64 (x.am - g)) := X9.cell rfl
            have z4 : W9.cell? ⟨w8.heap.size, 4, none⟩ = some (.int .i64 x.pl) := X9.cell rfl
            clear X9 hx0 hx1 hx2 x3 hlt2
            go_wp2_with fail
            go_quiet (fail)
            go_wp2
            exact ⟨⟨i + 1, by omega, by norm_cast, below_drewN HB9.out _⟩, by simp [intOf]; omega⟩
          · have a2 : decide (g < x.am) = false := decide_eq_false hlt2
            rw [hcg.2 (by omega)] at HQ
            obtain ⟨n0, n1, n2, n3, n4, nb, HQ2⟩ : ∃ (n0 n1 n2 n3 n4 : Int) (nb : Bool), Hid (Calls Try.prog 8 #[.pointer (some ⟨w.heap.size, 0, none⟩), .int .i64 x.id] w7 fun e w' => e = .returned (.tuple #[.agg #[.int .i64 n0, .int .i64 n1, .int .i64 n2, .int .i64 n3, .int .i64 n4, .bool nb], .bool false]) ∧ Below w7.heap.size w7 w') := ⟨0, 0, 0, 0, 0, false, HQ⟩
            clear HQ hcg
            go_wp2_with fail
            refine Calls.mono HQ2.out ?_
            rintro e w8 ⟨rfl, b8⟩
            obtain ⟨W9, hW9, B9⟩ : ∃ W9, (w8.alloc (.cells #[.int .i64 n0, .int .i64 n1, .int .i64 n2, .int .i64 n3, .int .i64 n4, .bool nb] 34)) = W9 ∧ Below w8.heap.size w8 W9 :=
              ⟨_, rfl, by go_grown⟩
            have HB8 : Hid (Below w3.heap.size w3 w8) := Below.trans HB7.out (b8.mono (Below.size HB7.out))
            have HB9 : Hid (Below w3.heap.size w3 W9) := Below.trans HB8.out (B9.mono (Below.size HB8.out))
            have y3 : W9.cell? ⟨r, i * 6 + 3, none⟩ = some (.int .i64 x.am) := keepBb HB9.out (HCX.out 3 _ rfl)
            clear hx0 hx1 hx2 x3 hlt2
            go_wp2_with fail
            go_quiet (fail)
            go_wp2
            exact ⟨⟨i + 1, by omega, by norm_cast, below_drewN HB9.out _⟩, by simp [intOf]; omega⟩
    · have hil : ¬ (i : Int) < (B.os.length : Int) := by omega
      have dl : decide ((B.clr.os.length : Int) ≤ (B.os.length : Int)) = true := decide_eq_true (by have := HLE.out; omega)
      have BB : Hid (Below w.heap.size w wr) := Below.trans BW3.out (HB.out.mono (Below.size BW3.out))
      go_wp2_with fail
      refine (HA.out _).mono ?_
      rintro e w9 ⟨rfl, b9⟩
      go_wp2
      go_ret
      exact ⟨rfl, Below.trans BB.out (b9.mono (Below.size BB.out))⟩
end Go.Proofs.Ytbpocckdobngiaa
