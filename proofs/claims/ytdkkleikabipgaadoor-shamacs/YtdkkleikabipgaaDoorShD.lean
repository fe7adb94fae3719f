/- A state behind one block. -/
import Derived.Test.YtdkkleikabipgaaDoorShC
namespace Go.Proofs.YtdkkleikabipgaaDoor
open Go.RowKit
set_option linter.unusedSimpArgs false
set_option linter.unusedVariables false

def stL (s : St) : List Nat := [s.a, s.b, s.c, s.d, s.e, s.f, s.g, s.z]
theorem stL_length (s : St) : (stL s).length = 8 := rfl
def mixL (u v : List Nat) (k : Nat) : List Nat := u.take k ++ v.drop k
theorem mixL_length (u v : List Nat) (k : Nat) (hu : u.length = 8) (hv : v.length = 8) : (mixL u v k).length = 8 := by simp [mixL, hu, hv]; omega
theorem mixL_get (u v : List Nat) (k : Nat) (hu : u.length = 8) (hv : v.length = 8) (hk : k < 8) : (mixL u v k).getD k 0 = v.getD k 0 := by
  simp only [mixL, List.getD_eq_getElem?_getD]
  rw [List.getElem?_append_right (by simp; omega)]
  simp [hu, Nat.min_eq_left (Nat.le_of_lt hk)]
theorem mixL_set (u v : List Nat) (k : Nat) (hu : u.length = 8) (hv : v.length = 8) (hk : k < 8) : (woA (mixL u v k)).setIfInBounds k (.int .u32 ((u.getD k 0 : Nat) : Int)) = woA (mixL u v (k + 1)) := by
  have h1 : u.take (k + 1) = u.take k ++ [u.getD k 0] := by
    rw [List.take_succ_eq_append_getElem (by omega), List.getD_eq_getElem?_getD, List.getElem?_eq_getElem (by omega)]; rfl
  have h2 : v.drop k = v.getD k 0 :: v.drop (k + 1) := by
    rw [List.drop_eq_getElem_cons (by omega), List.getD_eq_getElem?_getD, List.getElem?_eq_getElem (by omega)]; rfl
  unfold woA mixL
  rw [h1, h2, List.append_assoc, List.singleton_append]
  simp only [List.map_append, List.map_cons, List.setIfInBounds_toArray]
  rw [List.set_append_right _ _ (by simp; omega)]
  simp [hu, Nat.min_eq_left (Nat.le_of_lt hk)]
theorem grow_get (s t : St) (k : Nat) (hk : k < 8) : (stL (s.grow t)).getD k 0 = ((stL s).getD k 0 + (stL t).getD k 0) % 4294967296 := by
  match k, hk with
  | 0, _ => rfl
  | 1, _ => rfl
  | 2, _ => rfl
  | 3, _ => rfl
  | 4, _ => rfl
  | 5, _ => rfl
  | 6, _ => rfl
  | 7, _ => rfl

set_option maxHeartbeats 1000000 in
set_option maxRecDepth 100000 in
theorem plus_calls (s t : St) (w : World) :
    Calls Tryd.prog 28 #[.agg (woA (stL s)), .agg (woA (stL t))] w fun e w' => e = .returned (.agg (woA (stL (s.grow t)))) ∧ Below w.heap.size w w' := by
  have hL1 := stL_length s
  have hL2 := stL_length t
  have hL3 := stL_length (s.grow t)
  have hg := grow_get s t
  have HG : Hid _ := hg
  generalize stL s = ls at *
  generalize stL t = lt at *
  generalize stL (s.grow t) = lg at *
  clear hg
  go_enter Tryd.func28, Tryd.ntmps28
  go_wp2
  go_loopw [6] (fun i wr => ∃ k : Nat, k ≤ 8 ∧ i = .int .i64 k ∧ Below w.heap.size w wr ∧ Blk wr w.heap.size (woA (mixL lg ls k)) 38 ∧ Blk wr (w.heap.size + 1) (woA lt) 38 ∧ Blk wr (w.heap.size + 1 + 1) (woA (List.replicate 8 0)) 38) (fun i _ => 8 - (intOf i).toNat)
  case atStart =>
    refine ⟨0, by omega, rfl, (((Below.refl _ _).alloc (Nat.le_refl _) _).alloc (by simp) _).alloc (by simp; omega) _, ?_, (blk_new _ _ _ _ (by simp)).alloc _, blk_new _ _ _ _ (by simp)⟩
    have e : mixL lg ls 0 = ls := by simp [mixL]
    rw [e]
    exact ((blk_new _ _ _ _ rfl).alloc _).alloc _
  case round =>
    obtain ⟨k, hk, rfl, hB, X0, X1, X2⟩ := hrel
    by_cases hlt : k < 8
    · have c0 := X0.cell (woA_get _ k (by rw [mixL_length _ _ _ hL3 hL1]; omega))
      have c1 := X1.cell (woA_get _ k (by omega))
      have f0 := X0.frozen (o := k)
      rw [mixL_get _ _ _ hL3 hL1 hlt] at c0
      have HX : Hid (∀ v, Blk (wr.setCell ⟨w.heap.size, k, none⟩ (.int .u32 v)) w.heap.size ((woA (mixL lg ls k)).setIfInBounds k (.int .u32 v)) 38) := fun v => X0.set k (.int .u32 v)
      have hgk := HG.out k hlt
      have HS : Hid _ := mixL_set lg ls k hL3 hL1 hlt
      rw [hgk] at HS
      clear hgk
      generalize ls.getD k 0 = y0 at *
      generalize lt.getD k 0 = y1 at *
      go_wp2
      go_region
      go_wp2
      go_roundw
      case rel =>
        have e : ((y0 : Int) + (y1 : Int)) % 4294967296 = (((y0 + y1) % 4294967296 : Nat) : Int) := by omega
        rw [e]
        have h := HX.out (((y0 + y1) % 4294967296 : Nat) : Int)
        rw [HS.out] at h
        exact ⟨k + 1, by omega, by go_num, (hB.setCell (by simp) _).drew, h, X1.setOther (by simp) _, X2.setOther (by simp; omega) _⟩
      case measure => simp [intOf]; omega
    · have HE : Hid (woA (mixL lg ls k) = woA lg) := by
        have e : k = 8 := by omega
        subst e; show _ = _; congr 1; unfold mixL
        rw [List.take_of_length_le (by omega), List.drop_of_length_le (by omega), List.append_nil]
      have hs : (Tryd.prog.info? 38).map (·.size) = some (woA (mixL lg ls k)).size := by rw [woA_size, mixL_length _ _ _ hL3 hL1]; kernel_rfl
      have hz : (woA (List.replicate 8 0)).size = (woA (mixL lg ls k)).size := by rw [woA_size, woA_size, mixL_length _ _ _ hL3 hL1]; rfl
      have ho := woA_one (mixL lg ls k)
      generalize woA (mixL lg ls k) = A at *
      generalize woA (List.replicate 8 0) = Z at *
      go_wp2_with (first | ((with_reducible refine wpl_load (ty := 38) X0 Tryd.underlying38 rfl hs ?_ ?_); rfl) | ((with_reducible refine wpl_store (ty := 38) X2 hs hz ho ?_ ?_ ?_); rfl; rfl))
      have Y1 := X2.setRow A
      refine bodyPost_ret (v := .agg A) (results_cell_row Tryd.results28 _ _ (w.heap.size + 1 + 1) 38 A (0, 0) _ (by simp [go_sem]) Y1 Tryd.underlying38 rfl hs) rfl ⟨by rw [HE.out], below_setRow hB _ _ (by omega)⟩

/-- The round words lie where the program has them. -/
structure KT (w : World) : Prop where
  cell : ∀ i, i < 64 → w.cell? ⟨0, i, none⟩ = some (.int .u32 ((kTab.getD i 0 : Nat) : Int))
theorem KT.lt {w : World} (h : KT w) : 0 < w.heap.size := World.block_lt_of_cell? w _ (h.cell 0 (by decide))
theorem KT.below {w w' : World} {B : Nat} (h : KT w) (hb : Below B w w') (hB : 0 < B) : KT w' :=
  ⟨fun i hi => (hb.cell (p := ⟨0, i, none⟩) hB).trans (h.cell i hi)⟩
theorem not_bits (e : Nat) (he : e < 4294967296) : bits .xor .u32 (if IntKind.u32.signed = true then -1 else IntKind.u32.max) (e : Int) = ((4294967295 - e : Nat) : Int) := by
  have h1 : (if IntKind.u32.signed = true then -1 else IntKind.u32.max) = ((4294967295 : Nat) : Int) := rfl
  rw [h1, u32_xorN _ _ (by decide) he]
  congr 1
  apply Nat.eq_of_testBit_eq
  intro i
  rw [Nat.testBit_xor, testBit_not32 e i he]
  have h2 : (4294967295 : Nat).testBit i = decide (i < 32) := Nat.testBit_two_pow_sub_one 32 i
  rw [h2]
  by_cases hi : i < 32
  · simp [hi]
  · have hei : e.testBit i = false := Nat.testBit_lt_two_pow (Nat.lt_of_lt_of_le he (Nat.pow_le_pow_right (n := 2) (i := 32) (j := i) (by decide) (by omega)))
    simp [hi, hei]
theorem chs_bits (e f g : Nat) (he : e < 4294967296) (hf : f < 4294967296) (hg : g < 4294967296) :
    bits .xor .u32 (bits .and .u32 (e : Int) (f : Int)) (bits .and .u32 ((4294967295 - e : Nat) : Int) (g : Int)) = (chs e f g : Int) := by
  rw [u32_andN _ _ he hf, u32_andN _ _ (by omega) hg, u32_xorN _ _ (and_lt _ _ hf) (and_lt _ _ hg), chs_xor e f g he]
theorem below_drewN {B : Nat} {w0 w : World} (h : Below B w0 w) (n : Nat) : Below B w0 (w.drewN n) := by
  induction n with
  | zero => exact h
  | succ n ih => exact ih.drew

set_option maxHeartbeats 1000000 in
set_option maxRecDepth 100000 in
theorem after_calls (s : St) (l : List UInt8) (w : World) (hs : s.fits) (hl : l.length = 64) (hK : KT w) :
    Calls Tryd.prog 25 #[.agg (woA (stL s)), .agg (byA l)] w fun e w' => e = .returned (.agg (woA (stL (comp s (wordAt l))))) ∧ Below w.heap.size w w' := by
  have hgl := hK.lt
  have hz : (Tryd.prog.info? 40).map (·.size) = some (byA l).size := by rw [byA_size, hl]; kernel_rfl
  obtain ⟨W0, hW0⟩ : ∃ W0, ((w.alloc (.cells (woA (stL s)) 38)).alloc (.cells (byA l) 40)).alloc (.cells #[Value.int .u32 0, .int .u32 0, .int .u32 0, .int .u32 0, .int .u32 0, .int .u32 0, .int .u32 0, .int .u32 0] 38) = W0 := ⟨_, rfl⟩
  have hsz : W0.heap.size = w.heap.size + 3 := by rw [← hW0]; simp
  have B0 : Below w.heap.size w W0 := by rw [← hW0]; exact (((Below.refl _ _).alloc (Nat.le_refl _) _).alloc (by simp) _).alloc (by simp; omega) _
  have X0 : Blk W0 w.heap.size (woA (stL s)) 38 := by rw [← hW0]; exact ((blk_new _ _ _ _ rfl).alloc _).alloc _
  have X1 : Blk W0 (w.heap.size + 1) (byA l) 40 := by rw [← hW0]; exact (blk_new _ _ _ _ (by simp)).alloc _
  have X2 : Blk W0 (w.heap.size + 1 + 1) #[Value.int .u32 0, .int .u32 0, .int .u32 0, .int .u32 0, .int .u32 0, .int .u32 0, .int .u32 0, .int .u32 0] 38 := by rw [← hW0]; exact blk_new _ _ _ _ (by simp)
  go_enter Tryd.func25, Tryd.ntmps25
  go_wp2_with ((with_reducible refine wpl_load (ty := 40) X1 Tryd.underlying40 rfl hz ?_ ?_); rfl)
  refine (schedule_calls l _ hl).mono ?_
  rintro e w1 ⟨rfl, hb1⟩
  clear hW0
  have hzA : (Tryd.prog.info? 53).map (·.size) = some (woA (sched (wordAt l) 64)).size := by rw [woA_size, sched_length]; kernel_rfl
  have hsA : ∀ cs : Array Value, cs.size = 64 → cs.size = (woA (sched (wordAt l) 64)).size := fun cs h => by rw [woA_size, sched_length, h]
  have hoA := woA_one (sched (wordAt l) 64)
  obtain ⟨W1, hW1⟩ : ∃ W1, w1.alloc (.cells (woA (sched (wordAt l) 64)) 53) = W1 := ⟨_, rfl⟩
  have hz1 := hb1.size
  have B1 : Below w.heap.size w W1 := by rw [← hW1]; exact ((B0.trans (hb1.mono B0.size))).alloc (by omega) _
  have Y0 : Blk W1 w.heap.size (woA (stL s)) 38 := by rw [← hW1]; exact (X0.below hb1).alloc _
  have Y2 : Blk W1 (w.heap.size + 1 + 1) #[Value.int .u32 0, .int .u32 0, .int .u32 0, .int .u32 0, .int .u32 0, .int .u32 0, .int .u32 0, .int .u32 0] 38 := by rw [← hW1]; exact (X2.below hb1).alloc _
  have Y3 : Blk W1 w1.heap.size (woA (sched (wordAt l) 64)) 53 := by rw [← hW1]; exact blk_new _ _ _ _ rfl
  have HL : Hid (∀ i, i < 64 → (woA (sched (wordAt l) 64))[i]? = some (.int .u32 (((sched (wordAt l) 64).getD i 0 : Nat) : Int))) := fun i hi => woA_get _ i (by rw [sched_length]; exact hi)
  have HB : Hid (∀ i, (sched (wordAt l) 64).getD i 0 < 4294967296) := fun i => sched_getD_lt (wordAt l) (wordAt_lt l) 64 i
  have HC : Hid (comp s (wordAt l) = s.grow (rnds (fun i => kTab.getD i 0) (fun i => (sched (wordAt l) 64).getD i 0) 64 s)) := rfl
  generalize woA (sched (wordAt l) 64) = A at *
  generalize sched (wordAt l) 64 = S at *
  obtain ⟨R, hR⟩ : ∃ R, comp s (wordAt l) = R := ⟨_, rfl⟩
  rw [hR] at HC
  have HR0 : Hid (comp s (wordAt l) = R) := hR
  clear hR
  generalize hM : w1.heap.size = M at *
  have c0 := Y0.cell (o := 0) (v := .int .u32 s.a) rfl
  have c1 := Y0.cell (o := 1) (v := .int .u32 s.b) rfl
  have c2 := Y0.cell (o := 2) (v := .int .u32 s.c) rfl
  have c3 := Y0.cell (o := 3) (v := .int .u32 s.d) rfl
  have c4 := Y0.cell (o := 4) (v := .int .u32 s.e) rfl
  have c5 := Y0.cell (o := 5) (v := .int .u32 s.f) rfl
  have c6 := Y0.cell (o := 6) (v := .int .u32 s.g) rfl
  have c7 := Y0.cell (o := 7) (v := .int .u32 s.z) rfl
  go_wp2_with ((with_reducible refine wpl_store (ty := 53) (blk_new _ _ _ _ hM.symm) hzA (hsA _ rfl) hoA ?_ ?_ ?_); rfl; rfl; (rw [← hM, World.setRow_alloc_new]))
  go_quiet (fail)
  go_wp2
  have K1 : KT W1 := hK.below B1 hgl
  go_loopw [6, 7, 8, 9, 10, 11, 12, 13, 35] (fun va vb vc vd ve vf vg vz i wr => ∃ (k : Nat) (t : St), k ≤ 64 ∧ i = .int .i64 k ∧ Hid (t = rnds (fun i => kTab.getD i 0) (fun i => S.getD i 0) k s) ∧ t.fits ∧ va = .int .u32 t.a ∧ vb = .int .u32 t.b ∧ vc = .int .u32 t.c ∧ vd = .int .u32 t.d ∧ ve = .int .u32 t.e ∧ vf = .int .u32 t.f ∧ vg = .int .u32 t.g ∧ vz = .int .u32 t.z ∧ Below W1.heap.size W1 wr) (fun _ _ _ _ _ _ _ _ i _ => 64 - (intOf i).toNat)
  case atStart => exact ⟨0, s, by omega, rfl, rfl, hs, rfl, rfl, rfl, rfl, rfl, rfl, rfl, rfl, by rw [hW1]; exact below_drewN (Below.refl _ _) _⟩
  case round =>
    obtain ⟨k, t, hk, rfl, hT, hf, rfl, rfl, rfl, rfl, rfl, rfl, rfl, rfl, hb⟩ := hrel
    by_cases hlt : k < 64
    · have hkc := (hb.cell (p := ⟨0, k, none⟩) K1.lt).trans (K1.cell k hlt)
      have hwc := (hb.cell (p := ⟨M, k, none⟩) Y3.lt).trans (Y3.cell (HL.out k hlt))
      have hkb : kTab.getD k 0 < 4294967296 := by
        rw [List.getD_eq_getElem?_getD, List.getElem?_eq_getElem (by rw [kTab_length]; exact hlt)]; exact kTab_lt _ (List.getElem_mem _)
      have hwb := HB.out k
      have HN : Hid (rnd (kTab.getD k 0) (S.getD k 0) t = rnds (fun i => kTab.getD i 0) (fun i => S.getD i 0) (k + 1) s) := by
        show _ = _; rw [hT.out]; rfl
      clear hT
      generalize kTab.getD k 0 = kk at *
      generalize S.getD k 0 = ww at *
      obtain ⟨a, b, c, d, e, f, g, z⟩ := t
      obtain ⟨ha, hb', hc, hd, he, hf', hg, hz'⟩ := id hf
      simp only at ha hb' hc hd he hf' hg hz'
      have hs1 := bs1_bits e
      have hch := chs_bits e f g he hf' hg
      have hnb := not_bits e he
      have hmj := mjr_bits a b c ha hb' hc
      have hs0 := bs0_bits a
      have HR : Hid (rnd kk ww ⟨a, b, c, d, e, f, g, z⟩ = ⟨((z + bs1 e + chs e f g + kk + ww) % 4294967296 + (bs0 a + mjr a b c) % 4294967296) % 4294967296, a, b, c, (d + (z + bs1 e + chs e f g + kk + ww) % 4294967296) % 4294967296, e, f, g⟩) := by
        show _ = _; simp only [rnd, rndT, St.mk.injEq, true_and, and_true]; omega
      have hrf := rnd_fits kk ww _ hf
      have hT : (((z : Int) + (bs1 e : Int) + (chs e f g : Int) + (kk : Int)) % 4294967296 + (ww : Int)) % 4294967296 = (((z + bs1 e + chs e f g + kk + ww) % 4294967296 : Nat) : Int) := by omega
      have hU : ((bs0 a : Int) + (mjr a b c : Int)) % 4294967296 = (((bs0 a + mjr a b c) % 4294967296 : Nat) : Int) := by omega
      generalize 4294967295 - e = ne at *
      generalize (z + bs1 e + chs e f g + kk + ww) % 4294967296 = T at *
      generalize (bs0 a + mjr a b c) % 4294967296 = U at *
      generalize bs1 e = s1 at *
      generalize chs e f g = ch at *
      generalize bs0 a = s0 at *
      generalize mjr a b c = mj at *
      have hA : ((T : Int) + (U : Int)) % 4294967296 = (((T + U) % 4294967296 : Nat) : Int) := by omega
      have hD : ((d : Int) + (T : Int)) % 4294967296 = (((d + T) % 4294967296 : Nat) : Int) := by omega
      rw [HR.out] at hrf HN
      generalize (T + U) % 4294967296 = a' at *
      generalize (d + T) % 4294967296 = d' at *
      clear HR
      go_wp2
      go_quiet ((go_at_call 27; exact Calls.quiet_of_same (right_lit _ _ _ he (by decide) (by decide))))
      go_wp2_with (go_at_call 27; refine (right_lit _ _ _ ha (by decide) (by decide)).mono ?_; rintro _ _ ⟨rfl, rfl⟩)
      exact ⟨⟨k + 1, ⟨a', a, b, c, d', e, f, g⟩, by omega, by go_num, HN, hrf, by rw [hA], rfl, rfl, rfl, by rw [hD], rfl, rfl, rfl, below_drewN hb _⟩, by simp [intOf]; omega⟩
    · have HT : Hid (R = s.grow t) := by
        have e : k = 64 := by omega
        subst e; show _ = _; rw [HC.out, hT.out]
      clear hT HC hW1
      have Z0 := Y0.below hb
      have hzs : (Tryd.prog.info? 38).map (·.size) = some (woA (stL s)).size := by rw [woA_size]; kernel_rfl
      have hp := fun wx => plus_calls s t wx
      have HP : Hid _ := hp
      clear hp
      have hlit : Hid (#[Value.int .u32 t.a, .int .u32 t.b, .int .u32 t.c, .int .u32 t.d, .int .u32 t.e, .int .u32 t.f, .int .u32 t.g, .int .u32 t.z] = woA (stL t)) := rfl
      go_wp2_with ((with_reducible refine wpl_load (ty := 38) Z0 Tryd.underlying38 rfl hzs ?_ ?_); rfl)
      rw [hlit.out]
      refine (HP.out _).mono ?_
      rintro _ w3 ⟨rfl, hb3⟩
      have hz3 := hb.size
      have hy2 := Y2.lt
      have Z2 := (Y2.below hb).below hb3
      have hzr : (Tryd.prog.info? 38).map (·.size) = some (woA (stL (s.grow t))).size := by rw [woA_size]; kernel_rfl
      have hsr : ∀ cs : Array Value, cs.size = 8 → cs.size = (woA (stL (s.grow t))).size := fun cs h => by rw [woA_size, h]; rfl
      have hor := woA_one (stL (s.grow t))
      have HE : Hid (woA (stL (s.grow t)) = woA (stL R)) := by show _ = _; rw [HT.out]
      generalize woA (stL (s.grow t)) = G at *
      go_wp2_with ((with_reducible refine wpl_store (ty := 38) Z2 hzr (hsr _ rfl) hor ?_ ?_ ?_); rfl; rfl)
      have B3 : Below w.heap.size w w3 := (B1.trans (hb.mono B1.size)).trans (hb3.mono (Nat.le_trans B1.size hb.size))
      refine bodyPost_ret (v := .agg G) (results_cell_row Tryd.results25 _ _ (w.heap.size + 1 + 1) 38 G (0, 0) _ (by simp [go_sem]) (Z2.setRow G) Tryd.underlying38 rfl hzr) rfl ⟨by rw [HE.out, HR0.out], below_setRow B3 _ _ (by omega)⟩
end Go.Proofs.YtdkkleikabipgaaDoor
