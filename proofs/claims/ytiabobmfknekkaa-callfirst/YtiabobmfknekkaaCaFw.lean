/- No order is filled while a better one has anything left: the walk. -/
import Derived.Test.YtiabobmfknekkaaCaFi
import Derived.Test.YtiabobmfknekkaaCaV
namespace Go.Proofs.Ytiabobmfknekkaa
open Go.Shelf Go.RowKit Go.Lib Go.Sort
set_option linter.unusedSimpArgs false
set_option linter.unusedVariables false

theorem keepB {w w' : World} (hb : Below w.heap.size w w') {a : Addr} {u : Value} (h : w.cell? a = some u) : w'.cell? a = some u := (hb.cell (World.block_lt_of_cell? w _ h)).trans h

set_option maxHeartbeats 32000000 in
set_option maxRecDepth 100000 in
theorem first_calls (sv : Value) (l : List Ac) (w : World) (hl : Acs w sv l) (hn : l.length * 56 ≤ 140737488351232) :
    Calls Try.prog 5 #[sv] w fun e w' => e = .returned (.bool true) ∧ Below w.heap.size w w' := by
  have HBG : Hid _ := begun_calls sv l w hl hn
  obtain ⟨B, hBe⟩ : ∃ B, runs l 100 = B := ⟨_, rfl⟩
  rw [hBe] at HBG
  obtain ⟨ad, cap, rfl, hc⟩ := Elems.any hl
  clear hc hl hBe
  go_enter Try.func5, Try.ntmps5
  go_wp2_with fail
  refine Calls.mono HBG.out ?_
  rintro e w1 ⟨rfl, v1, K1, b1⟩
  have HI : Hid _ := K1.inv
  have hz1 := b1.size
  have HO2 : Hid _ := orders_calls w1 K1
  have HK1 : Hid _ := K1
  clear K1
  go_wp2_with fail
  refine Calls.mono HO2.out ?_
  rintro e w2 ⟨v2, rfl, own2, b2⟩
  have hz2 := b2.size
  have HK2 : Hid _ := Bk.below HK1.out b2
  have HC3 : Hid _ := clear_calls w2 HK2.out (by omega)
  obtain ⟨cp, hcp⟩ : ∃ cp, (crs B.os).1 = cp := ⟨_, rfl⟩
  obtain ⟨cn, hcn⟩ : ∃ cn, (crs B.os).2 = cn := ⟨_, rfl⟩
  rw [hcp, hcn] at HC3
  clear hcp hcn
  obtain ⟨oc, ocap, rfl⟩ := own_form own2
  have HOW2 : Hid _ := own2
  clear own2
  go_wp2_with fail
  refine Calls.mono HC3.out ?_
  rintro e w3 ⟨vF, v3, rfl, own3, S3⟩
  obtain ⟨fc, fcap, rfl⟩ := own_form own3
  have HK3 : Hid _ := S3.bk
  have BW3 : Hid _ := S3.below HK2.out (b1.trans (b2.mono hz1)) (by omega)
  have HWC : Hid (∀ r, oc = some ⟨r, 0, none⟩ → ∀ (k : Nat) (x : Od), B.os[k]? = some x → ∀ (j : Nat) (u : Value), (oC x)[j]? = some u → w3.cell? ⟨r, k * 6 + j, none⟩ = some u) := by
    intro r hr k x hx j u hu
    have q := World.ownsRow.cells (w := w2) HOW2.out (g := r) (by rw [hr]; rfl) (k * 6 + j) u (odL_get _ k j x u hx hu)
    rw [Addr.add_lit, Nat.zero_add] at q
    have hlt := World.ownsRow.lt (w := w2) HOW2.out r (by rw [hr]; rfl)
    exact S3.of.cell q (by have := Blk.lt HK1.out.blk; show r ≠ w.heap.size; omega) (fun e => by have := (HK1.out.row.lt _ e).2; have hh : r < w1.heap.size := this; omega)
  have HFC : Hid (∀ r, fc = some ⟨r, 0, none⟩ → ∀ (k : Nat) (x : Fi), B.fl[k]? = some x → ∀ (j : Nat) (u : Value), (fC x)[j]? = some u → w3.cell? ⟨r, k * 3 + j, none⟩ = some u) := by
    intro r hr k x hx j u hu
    have q := World.ownsRow.cells (w := w3) own3 (g := r) (by rw [hr]; rfl) (k * 3 + j) u (fiL_get _ k j x u hx hu)
    rw [Addr.add_lit, Nat.zero_add] at q
    exact q
  have HFO : Hid _ := own3
  have hFl : B.fl.length ≤ 128 := fl_len B
  have hOl : B.os.length ≤ 64 := HI.out.len
  clear own3 S3 HBG HO2 HC3
  go_wp2
  go_loopw [8] (fun iv wr => ∃ i : Nat, i ≤ B.fl.length ∧ iv = .int .i64 i ∧ Hid (Below w3.heap.size w3 wr)) (fun iv _ => B.fl.length - (intOf iv).toNat)
  case atStart => exact ⟨0, Nat.zero_le _, rfl, Below.refl _ _⟩
  case round =>
    obtain ⟨i, hi, rfl, HB⟩ := hrel
    by_cases hlt : i < B.fl.length
    · have hil : (i : Int) < (B.fl.length : Int) := by omega
      obtain ⟨f, hf⟩ : ∃ f, B.fl[i]? = some f := ⟨B.fl[i], by simp [hlt]⟩
      have HF : Hid _ := List.mem_of_getElem? hf
      obtain ⟨o0, ho0, -, -, -, -⟩ := fills_mem HI.out (p := (crs B.os).1) (n := (crs B.os).2) (f := f) HF.out
      obtain ⟨gF, hgF⟩ : ∃ gF, fc = some ⟨gF, 0, none⟩ := by
        rcases HFO.out.2 with ⟨h1, h2⟩ | ⟨g, cap, cur, h1, _⟩
        · exfalso; omega
        · injection h1 with h1 _ _; exact ⟨g, h1⟩
      obtain ⟨r, hr⟩ : ∃ r, oc = some ⟨r, 0, none⟩ := by
        rcases HOW2.out.2 with ⟨h1, h2⟩ | ⟨g, cap, cur, h1, _⟩
        · exfalso
          have : B.os = [] := List.eq_nil_of_length_eq_zero h2
          rw [this] at ho0; cases ho0
        · injection h1 with h1 _ _; exact ⟨g, h1⟩
      have HFc : Hid (∀ wx, Below w3.heap.size w3 wx → wx.cell? ⟨gF, i * 3, none⟩ = some (.int .i64 f.1)) := fun wx hb => keepB hb (HFC.out gF hgF i f hf 0 _ rfl)
      have HWc : Hid (∀ wx, Below w3.heap.size w3 wx → ∀ (k : Nat) (x : Od), B.os[k]? = some x → ∀ (j : Nat) (u : Value), (oC x)[j]? = some u → wx.cell? ⟨r, k * 6 + j, none⟩ = some u) := fun wx hb k x hx j u hu => keepB hb (HWC.out r hr k x hx j u hu)
      subst hgF hr
      clear hf ho0 o0
      go_wp2
      go_loopw [9] (fun kv w4 => ∃ k : Nat, k ≤ B.os.length ∧ kv = .int .i64 k ∧ Hid (Below w3.heap.size w3 w4)) (fun kv _ => B.os.length - (intOf kv).toNat)
      case atStart => exact ⟨0, Nat.zero_le _, rfl, HB⟩
      case round =>
        obtain ⟨w4, hw4⟩ : ∃ w4, w4 = wr := ⟨_, rfl⟩
        subst hw4
        obtain ⟨k, hk, rfl, HB4⟩ := hrel
        by_cases hlk : k < B.os.length
        · have hkl : (k : Int) < (B.os.length : Int) := by omega
          obtain ⟨x, hx⟩ : ∃ x, B.os[k]? = some x := ⟨B.os[k], by simp [hlk]⟩
          have HX : Hid _ := List.mem_of_getElem? hx
          have hcx := HWc.out w4 HB4.out k x hx
          have c0 : w4.cell? ⟨r, k * 6, none⟩ = some (.int .i64 x.id) := hcx 0 _ rfl
          have c1 : w4.cell? ⟨r, k * 6 + 1, none⟩ = some (.int .i64 x.own) := hcx 1 _ rfl
          have c2 : w4.cell? ⟨r, k * 6 + 2, none⟩ = some (.int .i64 x.pr) := hcx 2 _ rfl
          have c3 : w4.cell? ⟨r, k * 6 + 3, none⟩ = some (.int .i64 x.am) := hcx 3 _ rfl
          have c4 : w4.cell? ⟨r, k * 6 + 4, none⟩ = some (.int .i64 x.pl) := hcx 4 _ rfl
          have c5 : w4.cell? ⟨r, k * 6 + 5, none⟩ = some (.bool x.by) := hcx 5 _ rfl
          obtain ⟨W5, hW5, X5, B5, Z5⟩ : ∃ W5, (w4.alloc (.cells #[.int .i64 x.id, .int .i64 x.own, .int .i64 x.pr, .int .i64 x.am, .int .i64 x.pl, .bool x.by] 26)) = W5 ∧ Blk W5 w4.heap.size #[.int .i64 x.id, .int .i64 x.own, .int .i64 x.pr, .int .i64 x.am, .int .i64 x.pl, .bool x.by] 26 ∧ Below w4.heap.size w4 W5 ∧ w4.heap.size < W5.heap.size :=
            ⟨_, rfl, blk_new _ _ _ _ rfl, by go_grown, by simp⟩
          have HB5 : Hid (Below w3.heap.size w3 W5) := Below.trans HB4.out (B5.mono (Below.size HB4.out))
          have d5 : W5.cell? ⟨gF, i * 3, none⟩ = some (.int .i64 f.1) := HFc.out W5 HB5.out
          have x5 : W5.cell? ⟨w4.heap.size, 0, none⟩ = some (.int .i64 x.id) := X5.cell rfl
          have HX5 : Hid _ := X5
          clear X5 hcx hx
          by_cases hxf : x.id = f.1
          · have hxb : (x.id == f.1) = true := by simpa using hxf
            have HXF : Hid _ := hxf
            clear hxf
            go_wp2
            go_region
            go_wp2
            exact ⟨⟨k + 1, by omega, by norm_cast, Below.drew HB5.out⟩, by simp [intOf]; omega⟩
          · have hxb : (x.id == f.1) = false := by simpa using hxf
            go_wp2
            go_region
            go_wp2
            go_loopw [11] (fun jv w6 => ∃ j : Nat, j ≤ B.os.length ∧ jv = .int .i64 j ∧ Hid (Below w3.heap.size w3 w6) ∧ Hid (Blk w6 w4.heap.size #[.int .i64 x.id, .int .i64 x.own, .int .i64 x.pr, .int .i64 x.am, .int .i64 x.pl, .bool x.by] 26)) (fun jv _ => B.os.length - (intOf jv).toNat)
            case atStart => exact ⟨0, Nat.zero_le _, rfl, Below.drew HB5.out, Blk.drew HX5.out⟩
            case round =>
              obtain ⟨w6, hw6⟩ : ∃ w6, w6 = wr := ⟨_, rfl⟩
              subst hw6
              obtain ⟨j, hj, rfl, HB6, HX6⟩ := hrel
              by_cases hlj : j < B.os.length
              · have hjl : (j : Int) < (B.os.length : Int) := by omega
                obtain ⟨y, hy⟩ : ∃ y, B.os[j]? = some y := ⟨B.os[j], by simp [hlj]⟩
                have HY : Hid _ := List.mem_of_getElem? hy
                have hcy := HWc.out w6 HB6.out j y hy
                have e0 : w6.cell? ⟨r, j * 6, none⟩ = some (.int .i64 y.id) := hcy 0 _ rfl
                have e1 : w6.cell? ⟨r, j * 6 + 1, none⟩ = some (.int .i64 y.own) := hcy 1 _ rfl
                have e2 : w6.cell? ⟨r, j * 6 + 2, none⟩ = some (.int .i64 y.pr) := hcy 2 _ rfl
                have e3 : w6.cell? ⟨r, j * 6 + 3, none⟩ = some (.int .i64 y.am) := hcy 3 _ rfl
                have e4 : w6.cell? ⟨r, j * 6 + 4, none⟩ = some (.int .i64 y.pl) := hcy 4 _ rfl
                have e5 : w6.cell? ⟨r, j * 6 + 5, none⟩ = some (.bool y.by) := hcy 5 _ rfl
                obtain ⟨W7, hW7, X7, B7, Z7⟩ : ∃ W7, (w6.alloc (.cells #[.int .i64 y.id, .int .i64 y.own, .int .i64 y.pr, .int .i64 y.am, .int .i64 y.pl, .bool y.by] 26)) = W7 ∧ Blk W7 w6.heap.size #[.int .i64 y.id, .int .i64 y.own, .int .i64 y.pr, .int .i64 y.am, .int .i64 y.pl, .bool y.by] 26 ∧ Below w6.heap.size w6 W7 ∧ w6.heap.size < W7.heap.size :=
                  ⟨_, rfl, blk_new _ _ _ _ rfl, by go_grown, by simp⟩
                have HB7 : Hid (Below w3.heap.size w3 W7) := Below.trans HB6.out (B7.mono (Below.size HB6.out))
                have d7 : W7.cell? ⟨gF, i * 3, none⟩ = some (.int .i64 f.1) := HFc.out W7 HB7.out
                have X6 := Blk.below HX6.out B7
                have p0 : W7.cell? ⟨w4.heap.size, 0, none⟩ = some (.int .i64 x.id) := X6.cell rfl
                have p1 : W7.cell? ⟨w4.heap.size, 1, none⟩ = some (.int .i64 x.own) := X6.cell rfl
                have p2 : W7.cell? ⟨w4.heap.size, 2, none⟩ = some (.int .i64 x.pr) := X6.cell rfl
                have p3 : W7.cell? ⟨w4.heap.size, 3, none⟩ = some (.int .i64 x.am) := X6.cell rfl
                have p4 : W7.cell? ⟨w4.heap.size, 4, none⟩ = some (.int .i64 x.pl) := X6.cell rfl
                have p5 : W7.cell? ⟨w4.heap.size, 5, none⟩ = some (.bool x.by) := X6.cell rfl
                have q0 : W7.cell? ⟨w6.heap.size, 0, none⟩ = some (.int .i64 y.id) := X7.cell rfl
                have q1 : W7.cell? ⟨w6.heap.size, 1, none⟩ = some (.int .i64 y.own) := X7.cell rfl
                have q2 : W7.cell? ⟨w6.heap.size, 2, none⟩ = some (.int .i64 y.pr) := X7.cell rfl
                have q3 : W7.cell? ⟨w6.heap.size, 3, none⟩ = some (.int .i64 y.am) := X7.cell rfl
                have q4 : W7.cell? ⟨w6.heap.size, 4, none⟩ = some (.int .i64 y.pl) := X7.cell rfl
                have q5 : W7.cell? ⟨w6.heap.size, 5, none⟩ = some (.bool y.by) := X7.cell rfl
                have HX7 : Hid _ := X6
                obtain ⟨z, hz⟩ : ∃ z, (gtB B.clr.os x.id).1 = z := ⟨_, rfl⟩
                obtain ⟨lf, hlf0⟩ : ∃ lf, (gtB B.clr.os x.id).2 = lf := ⟨_, rfl⟩
                have HG : Hid (∀ wx, Below w3.heap.size w3 wx → Calls Try.prog 7 #[.pointer (some ⟨w.heap.size, 0, none⟩), .int .i64 x.id] wx fun e w' => e = .returned (.tuple #[.agg #[.int .i64 z.id, .int .i64 z.own, .int .i64 z.pr, .int .i64 z.am, .int .i64 z.pl, .bool z.by], .bool lf]) ∧ Below wx.heap.size wx w') := fun wx hb => by
                  have q := get_calls x.id wx (Bk.below HK3.out hb)
                  rw [hz, hlf0] at q
                  exact q
                clear hcy hy X7 X6 hz
                by_cases hyf : y.id = f.1
                · have hyb : (y.id == f.1) = true := by simpa using hyf
                  have hyb1 : decide (y.id = f.1) = true := decide_eq_true hyf
                  have hyb2 : (y.id != f.1) = false := by rw [bne, hyb]; rfl
                  by_cases hs : y.by = x.by
                  · have HLF : Hid (bet x y = true → lf = false) := fun hb => by
                      rw [← hlf0]
                      exact first_pure HI.out HF.out HX.out HY.out hyf hs hxf hb
                    have HYF : Hid _ := hyf
                    clear hyf hlf0
                    obtain ⟨bx, hbx⟩ : ∃ bx, x.by = bx := ⟨_, rfl⟩
                    have hby : y.by = bx := hs.trans hbx
                    rw [hbx] at p5
                    rw [hby] at q5
                    have HBX : Hid _ := hbx
                    clear hbx hby hs
                    cases bx
                    · go_wp2_with fail
                      go_quiet (fail)
                      by_cases g1 : x.pr < y.pr
                      · have g2 : decide (x.pr < y.pr) = true := decide_eq_true g1
                        have hlf : lf = false := HLF.out (by unfold bet; rw [HBX.out]; simp [g1])
                        subst hlf
                        go_wp2_with fail
                        refine Calls.mono (HG.out _ (below_drewN HB7.out _)) ?_
                        rintro e w8 ⟨rfl, b8⟩
                        obtain ⟨W9, hW9, B9⟩ : ∃ W9, (w8.alloc (.cells #[.int .i64 z.id, .int .i64 z.own, .int .i64 z.pr, .int .i64 z.am, .int .i64 z.pl, .bool z.by] 26)) = W9 ∧ Below w8.heap.size w8 W9 :=
                          ⟨_, rfl, by go_grown⟩
                        have HB8 : Hid (Below w3.heap.size w3 w8) := (below_drewN HB7.out _).trans (b8.mono (below_drewN HB7.out _).size)
                        have HB9 : Hid (Below w3.heap.size w3 W9) := Below.trans HB8.out (B9.mono (Below.size HB8.out))
                        have HX9 : Hid (Blk W9 w4.heap.size #[.int .i64 x.id, .int .i64 x.own, .int .i64 x.pr, .int .i64 x.am, .int .i64 x.pl, .bool x.by] 26) := ((Blk.below HX7.out (below_drewN (Below.refl _ _) _)).below b8).below B9
                        go_wp2
                        exact ⟨⟨j + 1, by omega, by norm_cast, HB9, HX9⟩, by simp [intOf]; omega⟩
                      · have g2 : decide (x.pr < y.pr) = false := decide_eq_false g1
                        by_cases g3 : x.pr = y.pr
                        · have g4 : (x.pr == y.pr) = true := by simpa using g3
                          have HG3 : Hid _ := g3
                          clear g3
                          by_cases g5 : x.pl < y.pl
                          · have g6 : decide (x.pl < y.pl) = true := decide_eq_true g5
                            have hlf : lf = false := HLF.out (by unfold bet; rw [HBX.out, g4, g6]; simp)
                            subst hlf
                            go_wp2_with fail
                            refine Calls.mono (HG.out _ (below_drewN HB7.out _)) ?_
                            rintro e w8 ⟨rfl, b8⟩
                            obtain ⟨W9, hW9, B9⟩ : ∃ W9, (w8.alloc (.cells #[.int .i64 z.id, .int .i64 z.own, .int .i64 z.pr, .int .i64 z.am, .int .i64 z.pl, .bool z.by] 26)) = W9 ∧ Below w8.heap.size w8 W9 :=
                              ⟨_, rfl, by go_grown⟩
                            have HB8 : Hid (Below w3.heap.size w3 w8) := (below_drewN HB7.out _).trans (b8.mono (below_drewN HB7.out _).size)
                            have HB9 : Hid (Below w3.heap.size w3 W9) := Below.trans HB8.out (B9.mono (Below.size HB8.out))
                            have HX9 : Hid (Blk W9 w4.heap.size #[.int .i64 x.id, .int .i64 x.own, .int .i64 x.pr, .int .i64 x.am, .int .i64 x.pl, .bool x.by] 26) := ((Blk.below HX7.out (below_drewN (Below.refl _ _) _)).below b8).below B9
                            go_wp2
                            exact ⟨⟨j + 1, by omega, by norm_cast, HB9, HX9⟩, by simp [intOf]; omega⟩
                          · have g6 : decide (x.pl < y.pl) = false := decide_eq_false g5
                            go_wp2_with fail
                            refine Calls.mono (HG.out _ (below_drewN HB7.out _)) ?_
                            rintro e w8 ⟨rfl, b8⟩
                            obtain ⟨W9, hW9, B9⟩ : ∃ W9, (w8.alloc (.cells #[.int .i64 z.id, .int .i64 z.own, .int .i64 z.pr, .int .i64 z.am, .int .i64 z.pl, .bool z.by] 26)) = W9 ∧ Below w8.heap.size w8 W9 :=
                              ⟨_, rfl, by go_grown⟩
                            have HB8 : Hid (Below w3.heap.size w3 w8) := (below_drewN HB7.out _).trans (b8.mono (below_drewN HB7.out _).size)
                            have HB9 : Hid (Below w3.heap.size w3 W9) := Below.trans HB8.out (B9.mono (Below.size HB8.out))
                            have HX9 : Hid (Blk W9 w4.heap.size #[.int .i64 x.id, .int .i64 x.own, .int .i64 x.pr, .int .i64 x.am, .int .i64 x.pl, .bool x.by] 26) := ((Blk.below HX7.out (below_drewN (Below.refl _ _) _)).below b8).below B9
                            go_wp2
                            exact ⟨⟨j + 1, by omega, by norm_cast, HB9, HX9⟩, by simp [intOf]; omega⟩
                        · have g4 : (x.pr == y.pr) = false := by simpa using g3
                          go_wp2_with fail
                          refine Calls.mono (HG.out _ (below_drewN HB7.out _)) ?_
                          rintro e w8 ⟨rfl, b8⟩
                          obtain ⟨W9, hW9, B9⟩ : ∃ W9, (w8.alloc (.cells #[.int .i64 z.id, .int .i64 z.own, .int .i64 z.pr, .int .i64 z.am, .int .i64 z.pl, .bool z.by] 26)) = W9 ∧ Below w8.heap.size w8 W9 :=
                            ⟨_, rfl, by go_grown⟩
                          have HB8 : Hid (Below w3.heap.size w3 w8) := (below_drewN HB7.out _).trans (b8.mono (below_drewN HB7.out _).size)
                          have HB9 : Hid (Below w3.heap.size w3 W9) := Below.trans HB8.out (B9.mono (Below.size HB8.out))
                          have HX9 : Hid (Blk W9 w4.heap.size #[.int .i64 x.id, .int .i64 x.own, .int .i64 x.pr, .int .i64 x.am, .int .i64 x.pl, .bool x.by] 26) := ((Blk.below HX7.out (below_drewN (Below.refl _ _) _)).below b8).below B9
                          go_wp2
                          exact ⟨⟨j + 1, by omega, by norm_cast, HB9, HX9⟩, by simp [intOf]; omega⟩
                    · go_wp2_with fail
                      go_quiet (fail)
                      by_cases g1 : y.pr < x.pr
                      · have g2 : decide (y.pr < x.pr) = true := decide_eq_true g1
                        have hlf : lf = false := HLF.out (by unfold bet; rw [HBX.out]; simp [g1])
                        subst hlf
                        go_wp2_with fail
                        refine Calls.mono (HG.out _ (below_drewN HB7.out _)) ?_
                        rintro e w8 ⟨rfl, b8⟩
                        obtain ⟨W9, hW9, B9⟩ : ∃ W9, (w8.alloc (.cells #[.int .i64 z.id, .int .i64 z.own, .int .i64 z.pr, .int .i64 z.am, .int .i64 z.pl, .bool z.by] 26)) = W9 ∧ Below w8.heap.size w8 W9 :=
                          ⟨_, rfl, by go_grown⟩
                        have HB8 : Hid (Below w3.heap.size w3 w8) := (below_drewN HB7.out _).trans (b8.mono (below_drewN HB7.out _).size)
                        have HB9 : Hid (Below w3.heap.size w3 W9) := Below.trans HB8.out (B9.mono (Below.size HB8.out))
                        have HX9 : Hid (Blk W9 w4.heap.size #[.int .i64 x.id, .int .i64 x.own, .int .i64 x.pr, .int .i64 x.am, .int .i64 x.pl, .bool x.by] 26) := ((Blk.below HX7.out (below_drewN (Below.refl _ _) _)).below b8).below B9
                        go_wp2
                        exact ⟨⟨j + 1, by omega, by norm_cast, HB9, HX9⟩, by simp [intOf]; omega⟩
                      · have g2 : decide (y.pr < x.pr) = false := decide_eq_false g1
                        by_cases g3 : x.pr = y.pr
                        · have g4 : (x.pr == y.pr) = true := by simpa using g3
                          have HG3 : Hid _ := g3
                          clear g3
                          by_cases g5 : x.pl < y.pl
                          · have g6 : decide (x.pl < y.pl) = true := decide_eq_true g5
                            have hlf : lf = false := HLF.out (by unfold bet; rw [HBX.out, g4, g6]; simp)
                            subst hlf
                            go_wp2_with fail
                            refine Calls.mono (HG.out _ (below_drewN HB7.out _)) ?_
                            rintro e w8 ⟨rfl, b8⟩
                            obtain ⟨W9, hW9, B9⟩ : ∃ W9, (w8.alloc (.cells #[.int .i64 z.id, .int .i64 z.own, .int .i64 z.pr, .int .i64 z.am, .int .i64 z.pl, .bool z.by] 26)) = W9 ∧ Below w8.heap.size w8 W9 :=
                              ⟨_, rfl, by go_grown⟩
                            have HB8 : Hid (Below w3.heap.size w3 w8) := (below_drewN HB7.out _).trans (b8.mono (below_drewN HB7.out _).size)
                            have HB9 : Hid (Below w3.heap.size w3 W9) := Below.trans HB8.out (B9.mono (Below.size HB8.out))
                            have HX9 : Hid (Blk W9 w4.heap.size #[.int .i64 x.id, .int .i64 x.own, .int .i64 x.pr, .int .i64 x.am, .int .i64 x.pl, .bool x.by] 26) := ((Blk.below HX7.out (below_drewN (Below.refl _ _) _)).below b8).below B9
                            go_wp2
                            exact ⟨⟨j + 1, by omega, by norm_cast, HB9, HX9⟩, by simp [intOf]; omega⟩
                          · have g6 : decide (x.pl < y.pl) = false := decide_eq_false g5
                            go_wp2_with fail
                            refine Calls.mono (HG.out _ (below_drewN HB7.out _)) ?_
                            rintro e w8 ⟨rfl, b8⟩
                            obtain ⟨W9, hW9, B9⟩ : ∃ W9, (w8.alloc (.cells #[.int .i64 z.id, .int .i64 z.own, .int .i64 z.pr, .int .i64 z.am, .int .i64 z.pl, .bool z.by] 26)) = W9 ∧ Below w8.heap.size w8 W9 :=
                              ⟨_, rfl, by go_grown⟩
                            have HB8 : Hid (Below w3.heap.size w3 w8) := (below_drewN HB7.out _).trans (b8.mono (below_drewN HB7.out _).size)
                            have HB9 : Hid (Below w3.heap.size w3 W9) := Below.trans HB8.out (B9.mono (Below.size HB8.out))
                            have HX9 : Hid (Blk W9 w4.heap.size #[.int .i64 x.id, .int .i64 x.own, .int .i64 x.pr, .int .i64 x.am, .int .i64 x.pl, .bool x.by] 26) := ((Blk.below HX7.out (below_drewN (Below.refl _ _) _)).below b8).below B9
                            go_wp2
                            exact ⟨⟨j + 1, by omega, by norm_cast, HB9, HX9⟩, by simp [intOf]; omega⟩
                        · have g4 : (x.pr == y.pr) = false := by simpa using g3
                          go_wp2_with fail
                          refine Calls.mono (HG.out _ (below_drewN HB7.out _)) ?_
                          rintro e w8 ⟨rfl, b8⟩
                          obtain ⟨W9, hW9, B9⟩ : ∃ W9, (w8.alloc (.cells #[.int .i64 z.id, .int .i64 z.own, .int .i64 z.pr, .int .i64 z.am, .int .i64 z.pl, .bool z.by] 26)) = W9 ∧ Below w8.heap.size w8 W9 :=
                            ⟨_, rfl, by go_grown⟩
                          have HB8 : Hid (Below w3.heap.size w3 w8) := (below_drewN HB7.out _).trans (b8.mono (below_drewN HB7.out _).size)
                          have HB9 : Hid (Below w3.heap.size w3 W9) := Below.trans HB8.out (B9.mono (Below.size HB8.out))
                          have HX9 : Hid (Blk W9 w4.heap.size #[.int .i64 x.id, .int .i64 x.own, .int .i64 x.pr, .int .i64 x.am, .int .i64 x.pl, .bool x.by] 26) := ((Blk.below HX7.out (below_drewN (Below.refl _ _) _)).below b8).below B9
                          go_wp2
                          exact ⟨⟨j + 1, by omega, by norm_cast, HB9, HX9⟩, by simp [intOf]; omega⟩
                  · have HYF : Hid _ := hyf
                    obtain ⟨bx, hbx⟩ : ∃ bx, x.by = bx := ⟨_, rfl⟩
                    have hby : y.by = !bx := by
                      rw [← hbx]
                      revert hs
                      cases y.by <;> cases x.by <;> simp
                    rw [hbx] at p5
                    rw [hby] at q5
                    clear hyf hbx hby hs hlf0
                    cases bx
                    · go_wp2_with fail
                      go_quiet (fail)
                      go_wp2
                      exact ⟨⟨j + 1, by omega, by norm_cast, below_drewN HB7.out _, Blk.below HX7.out (below_drewN (Below.refl _ _) _)⟩, by simp [intOf]; omega⟩
                    · go_wp2_with fail
                      go_quiet (fail)
                      go_wp2
                      exact ⟨⟨j + 1, by omega, by norm_cast, below_drewN HB7.out _, Blk.below HX7.out (below_drewN (Below.refl _ _) _)⟩, by simp [intOf]; omega⟩
                · have hyb : (y.id == f.1) = false := by simpa using hyf
                  have hyb1 : decide (y.id = f.1) = false := decide_eq_false hyf
                  have hyb2 : (y.id != f.1) = true := by rw [bne, hyb]; rfl
                  clear hlf0
                  go_wp2_with fail
                  go_quiet (fail)
                  go_wp2
                  exact ⟨⟨j + 1, by omega, by norm_cast, below_drewN HB7.out _, Blk.below HX7.out (below_drewN (Below.refl _ _) _)⟩, by simp [intOf]; omega⟩
              · have hjl : ¬ (j : Int) < (B.os.length : Int) := by omega
                go_wp2
                exact ⟨⟨k + 1, by omega, by norm_cast, HB6⟩, by simp [intOf]; omega⟩
        · have hkl : ¬ (k : Int) < (B.os.length : Int) := by omega
          go_wp2
          exact ⟨⟨i + 1, by omega, by norm_cast, HB4⟩, by simp [intOf]; omega⟩
    · have hil : ¬ (i : Int) < (B.fl.length : Int) := by omega
      go_wp2_with fail
      refine (awake_calls _).mono ?_
      rintro e w9 ⟨rfl, b9⟩
      go_wp2
      go_ret
      have BWr := BW3.out.trans (Below.mono HB.out BW3.out.size)
      exact ⟨rfl, BWr.trans (b9.mono BWr.size)⟩
end Go.Proofs.Ytiabobmfknekkaa
