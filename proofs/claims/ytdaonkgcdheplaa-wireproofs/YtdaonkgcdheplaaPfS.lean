/- A proof is the same as itself, wherever it lies. -/
import Derived.Test.YtdaonkgcdheplaaPfA
import Derived.Deep.RegionHeld3
namespace Go.Proofs.Ytdaonkgcdheplaa
open Go.RowKit
set_option linter.unusedVariables false
set_option linter.unusedSimpArgs false

set_option maxRecDepth 100000 in
set_option maxHeartbeats 2000000 in
theorem sameProof_same (x : Pf) (va vb : Value) (w : World) (ha : Pts w va x.paths) (hb : Pts w vb x.paths) (hk : okPf x) :
    Calls Try.prog 15 #[x.val va, x.val vb] w fun e w' => e = .returned (.bool true) ∧ Below w.heap.size w w' := by
  obtain ⟨cnt, l⟩ := x
  simp only at ha hb
  have hl2 := hk.n
  simp only at hl2
  obtain ⟨p, c, rfl⟩ := ha.len
  obtain ⟨p', c', rfl⟩ := hb.len
  have HA : Hid _ := ha
  have HB : Hid _ := hb
  have HK : Hid (∀ t ∈ l, okPt t) := hk.l
  clear ha hb hk
  have X0 := (blk_new w w.heap.size #[.int .i64 cnt, .slice p l.length c] 33 rfl).alloc (.cells #[.int .i64 cnt, .slice p' l.length c'] 33)
  have Y0 := blk_new (w.alloc (.cells #[.int .i64 cnt, .slice p l.length c] 33)) (w.heap.size + 1) #[.int .i64 cnt, .slice p' l.length c'] 33 (by simp)
  have hB0 : Below w.heap.size w ((w.alloc (.cells #[.int .i64 cnt, .slice p l.length c] 33)).alloc (.cells #[.int .i64 cnt, .slice p' l.length c'] 33)) := by go_grown
  unfold Pf.val
  simp only
  have hcc : (cnt != cnt) = false := by simp
  have hll : ((l.length : Int) != l.length) = false := by simp
  go_enter Try.func15, Try.ntmps15
  go_wp2
  go_loopw [5] (fun i wr => ∃ j : Nat, j ≤ l.length ∧ i = .int .i64 j ∧ Below w.heap.size w wr ∧ Blk wr w.heap.size #[.int .i64 cnt, .slice p l.length c] 33 ∧ Blk wr (w.heap.size + 1) #[.int .i64 cnt, .slice p' l.length c'] 33) (fun i _ => l.length - (intOf i).toNat)
  case atStart => exact ⟨0, Nat.zero_le _, rfl, hB0, X0, Y0⟩
  case round =>
    obtain ⟨j, hj, rfl, hbw, X, Y⟩ := hrel
    have hz := hbw.size
    clear X0 Y0 hB0
    have x1 := X.cell (o := 1) rfl
    have y1 := Y.cell (o := 1) rfl
    by_cases hlt : j < l.length
    · have hd : decide ((j : Int) < l.length) = true := by simp only [decide_eq_true_eq]; omega
      rcases HA.out with ⟨_, hn⟩ | ⟨b, off, cap, hv, hc⟩
      · rw [hn] at hlt; simp at hlt
      simp only [Value.slice.injEq] at hv
      obtain ⟨rfl, _, rfl⟩ := hv
      rcases HB.out with ⟨_, hn⟩ | ⟨b', off', cap', hv', hc'⟩
      · rw [hn] at hlt; simp at hlt
      simp only [Value.slice.injEq] at hv'
      obtain ⟨rfl, _, rfl⟩ := hv'
      obtain ⟨sv, c1, c2, c3, c4, hS, _⟩ := hc j hlt
      have hbl := World.block_lt_of_cell? w _ c1
      have g1 := (hbw.cell (p := ⟨b, off + j * 4, none⟩) hbl).trans c1
      have g2 := (hbw.cell (p := ⟨b, off + j * 4 + 1, none⟩) hbl).trans c2
      have g3 := (hbw.cell (p := ⟨b, off + j * 4 + 2, none⟩) hbl).trans c3
      have g4 := (hbw.cell (p := ⟨b, off + j * 4 + 3, none⟩) hbl).trans c4
      obtain ⟨sv', c1', c2', c3', c4', hS', _⟩ := hc' j hlt
      have hbl' := World.block_lt_of_cell? w _ c1'
      have g1' := (hbw.cell (p := ⟨b', off' + j * 4, none⟩) hbl').trans c1'
      have g2' := (hbw.cell (p := ⟨b', off' + j * 4 + 1, none⟩) hbl').trans c2'
      have g3' := (hbw.cell (p := ⟨b', off' + j * 4 + 2, none⟩) hbl').trans c3'
      have g4' := (hbw.cell (p := ⟨b', off' + j * 4 + 3, none⟩) hbl').trans c4'
      have hkt := HK.out l[j] (List.getElem_mem hlt)
      clear c1 c2 c3 c4 c1' c2' c3' c4' hc hc'
      generalize l[j] = t at g1 g2 g3 g4 g1' g2' g3' g4' hS hS' hkt
      obtain ⟨ps, cs, rfl⟩ := hS.len
      obtain ⟨ps', cs', rfl⟩ := hS'.len
      have hk4 := hkt.n
      have HS : Hid _ := hS
      have HS' : Hid _ := hS'
      clear hS hS' hkt
      go_wp2
      go_region_held3 (fun w' => w'.cell? ⟨w.heap.size, 1, none⟩ = some (.slice (some ⟨b, off, none⟩) l.length c) ∧ w'.cell? ⟨w.heap.size + 1, 1, none⟩ = some (.slice (some ⟨b', off', none⟩) l.length c') ∧
          w'.cell? ⟨b, off + j * 4, none⟩ = some (.int .i64 t.idx) ∧ w'.cell? ⟨b, off + j * 4 + 1, none⟩ = some (.string t.key) ∧ w'.cell? ⟨b, off + j * 4 + 2, none⟩ = some (.string t.dat) ∧ w'.cell? ⟨b, off + j * 4 + 3, none⟩ = some (.slice ps t.sides.length cs) ∧
          w'.cell? ⟨b', off' + j * 4, none⟩ = some (.int .i64 t.idx) ∧ w'.cell? ⟨b', off' + j * 4 + 1, none⟩ = some (.string t.key) ∧ w'.cell? ⟨b', off' + j * 4 + 2, none⟩ = some (.string t.dat) ∧ w'.cell? ⟨b', off' + j * 4 + 3, none⟩ = some (.slice ps' t.sides.length cs')) (go_keep) (fail)
      · obtain ⟨W, hW, TX, TY, XW, YW, BW⟩ : ∃ W, ((wr.alloc (.cells #[.int .i64 t.idx, .string t.key, .string t.dat, .slice ps t.sides.length cs] 74)).alloc (.cells #[.int .i64 t.idx, .string t.key, .string t.dat, .slice ps' t.sides.length cs'] 74)).drew = W ∧ Blk W (wr.heap.size) #[.int .i64 t.idx, .string t.key, .string t.dat, .slice ps t.sides.length cs] 74 ∧ Blk W (wr.heap.size + 1) #[.int .i64 t.idx, .string t.key, .string t.dat, .slice ps' t.sides.length cs'] 74 ∧ Blk W w.heap.size #[.int .i64 cnt, .slice (some ⟨b, off, none⟩) l.length c] 33 ∧ Blk W (w.heap.size + 1) #[.int .i64 cnt, .slice (some ⟨b', off', none⟩) l.length c'] 33 ∧ Below w.heap.size w W := by
          refine ⟨_, rfl, ?_, ?_, ?_, ?_, ?_⟩
          · exact ((blk_new wr wr.heap.size _ _ rfl).alloc _ : Blk ((wr.alloc (.cells #[.int .i64 t.idx, .string t.key, .string t.dat, .slice ps t.sides.length cs] 74)).alloc (.cells #[.int .i64 t.idx, .string t.key, .string t.dat, .slice ps' t.sides.length cs'] 74)) _ _ _)
          · exact (blk_new (wr.alloc (.cells #[.int .i64 t.idx, .string t.key, .string t.dat, .slice ps t.sides.length cs] 74)) (wr.heap.size + 1) _ _ (by simp) : Blk ((wr.alloc (.cells #[.int .i64 t.idx, .string t.key, .string t.dat, .slice ps t.sides.length cs] 74)).alloc (.cells #[.int .i64 t.idx, .string t.key, .string t.dat, .slice ps' t.sides.length cs'] 74)) _ _ _)
          · exact ((X.alloc _).alloc _ : Blk ((wr.alloc (.cells #[.int .i64 t.idx, .string t.key, .string t.dat, .slice ps t.sides.length cs] 74)).alloc (.cells #[.int .i64 t.idx, .string t.key, .string t.dat, .slice ps' t.sides.length cs'] 74)) _ _ _)
          · exact ((Y.alloc _).alloc _ : Blk ((wr.alloc (.cells #[.int .i64 t.idx, .string t.key, .string t.dat, .slice ps t.sides.length cs] 74)).alloc (.cells #[.int .i64 t.idx, .string t.key, .string t.dat, .slice ps' t.sides.length cs'] 74)) _ _ _)
          · exact ((hbw.alloc hz _).alloc (by simp; omega) _).drew
        rw [hW]
        clear hW
        have tx0 := TX.cell (o := 0) rfl
        have tx1 := TX.cell (o := 1) rfl
        have tx2 := TX.cell (o := 2) rfl
        have tx3 := TX.cell (o := 3) rfl
        have ty0 := TY.cell (o := 0) rfl
        have ty1 := TY.cell (o := 1) rfl
        have ty2 := TY.cell (o := 2) rfl
        have ty3 := TY.cell (o := 3) rfl
        have ei : (t.idx != t.idx) = false := by simp
        have ek : (t.key.toList != t.key.toList) = false := by simp
        have ed : (t.dat.toList != t.dat.toList) = false := by simp
        have es : ((t.sides.length : Int) != t.sides.length) = false := by simp
        go_wp2
        go_loopw [8] (fun i wi => ∃ r : Nat, r ≤ t.sides.length ∧ i = .int .i64 r ∧ Below w.heap.size w wi ∧ Blk wi (wr.heap.size) #[.int .i64 t.idx, .string t.key, .string t.dat, .slice ps t.sides.length cs] 74 ∧ Blk wi (wr.heap.size + 1) #[.int .i64 t.idx, .string t.key, .string t.dat, .slice ps' t.sides.length cs'] 74 ∧ Blk wi w.heap.size #[.int .i64 cnt, .slice (some ⟨b, off, none⟩) l.length c] 33 ∧ Blk wi (w.heap.size + 1) #[.int .i64 cnt, .slice (some ⟨b', off', none⟩) l.length c'] 33) (fun i _ => t.sides.length - (intOf i).toNat)
        case atStart => exact ⟨0, Nat.zero_le _, rfl, BW, TX, TY, XW, YW⟩
        case round =>
          obtain ⟨r, hr, rfl, hbi, UX, UY, XI, YI⟩ := hrel
          have ux3 := UX.cell (o := 3) rfl
          have uy3 := UY.cell (o := 3) rfl
          by_cases hrl : r < t.sides.length
          · have hdr : decide ((r : Int) < t.sides.length) = true := by simp only [decide_eq_true_eq]; omega
            rcases HS.out with ⟨_, hn⟩ | ⟨bs, os, caps, hvs, hcs⟩
            · rw [hn] at hrl; simp at hrl
            simp only [Value.slice.injEq] at hvs
            obtain ⟨rfl, _, rfl⟩ := hvs
            rcases HS'.out with ⟨_, hn⟩ | ⟨bt, ot, capt, hvt, hct⟩
            · rw [hn] at hrl; simp at hrl
            simp only [Value.slice.injEq] at hvt
            obtain ⟨rfl, _, rfl⟩ := hvt
            obtain ⟨k1, _⟩ := hcs r hrl
            obtain ⟨k2, _⟩ := hct r hrl
            have m1 := (hbi.cell (p := ⟨bs, os + r, none⟩) (World.block_lt_of_cell? w _ k1)).trans k1
            have m2 := (hbi.cell (p := ⟨bt, ot + r, none⟩) (World.block_lt_of_cell? w _ k2)).trans k2
            clear hcs hct k1 k2
            generalize t.sides[r] = g at m1 m2
            have eg : (g.toList != g.toList) = false := by simp
            go_wp2
            go_region
            go_wp2
            go_roundw
            case rel => exact ⟨r + 1, by omega, by go_num, hbi.drew, UX, UY, XI, YI⟩
            case measure => simp [intOf]; omega
          · have hdr : decide ((r : Int) < t.sides.length) = false := by simp only [decide_eq_false_iff_not]; omega
            go_wp2
            go_roundw
            case rel => exact ⟨j + 1, by omega, by go_num, hbi, XI, YI⟩
            case measure => simp [intOf]; omega
      · obtain ⟨W, hW, TX, TY, XW, YW, BW⟩ : ∃ W, ((wr.alloc (.cells #[.int .i64 t.idx, .string t.key, .string t.dat, .slice ps' t.sides.length cs'] 74)).alloc (.cells #[.int .i64 t.idx, .string t.key, .string t.dat, .slice ps t.sides.length cs] 74)).drew = W ∧ Blk W (wr.heap.size + 1) #[.int .i64 t.idx, .string t.key, .string t.dat, .slice ps t.sides.length cs] 74 ∧ Blk W (wr.heap.size) #[.int .i64 t.idx, .string t.key, .string t.dat, .slice ps' t.sides.length cs'] 74 ∧ Blk W w.heap.size #[.int .i64 cnt, .slice (some ⟨b, off, none⟩) l.length c] 33 ∧ Blk W (w.heap.size + 1) #[.int .i64 cnt, .slice (some ⟨b', off', none⟩) l.length c'] 33 ∧ Below w.heap.size w W := by
          refine ⟨_, rfl, ?_, ?_, ?_, ?_, ?_⟩
          · exact (blk_new (wr.alloc (.cells #[.int .i64 t.idx, .string t.key, .string t.dat, .slice ps' t.sides.length cs'] 74)) (wr.heap.size + 1) _ _ (by simp) : Blk ((wr.alloc (.cells #[.int .i64 t.idx, .string t.key, .string t.dat, .slice ps' t.sides.length cs'] 74)).alloc (.cells #[.int .i64 t.idx, .string t.key, .string t.dat, .slice ps t.sides.length cs] 74)) _ _ _)
          · exact ((blk_new wr wr.heap.size _ _ rfl).alloc _ : Blk ((wr.alloc (.cells #[.int .i64 t.idx, .string t.key, .string t.dat, .slice ps' t.sides.length cs'] 74)).alloc (.cells #[.int .i64 t.idx, .string t.key, .string t.dat, .slice ps t.sides.length cs] 74)) _ _ _)
          · exact ((X.alloc _).alloc _ : Blk ((wr.alloc (.cells #[.int .i64 t.idx, .string t.key, .string t.dat, .slice ps' t.sides.length cs'] 74)).alloc (.cells #[.int .i64 t.idx, .string t.key, .string t.dat, .slice ps t.sides.length cs] 74)) _ _ _)
          · exact ((Y.alloc _).alloc _ : Blk ((wr.alloc (.cells #[.int .i64 t.idx, .string t.key, .string t.dat, .slice ps' t.sides.length cs'] 74)).alloc (.cells #[.int .i64 t.idx, .string t.key, .string t.dat, .slice ps t.sides.length cs] 74)) _ _ _)
          · exact ((hbw.alloc hz _).alloc (by simp; omega) _).drew
        rw [hW]
        clear hW
        have tx0 := TX.cell (o := 0) rfl
        have tx1 := TX.cell (o := 1) rfl
        have tx2 := TX.cell (o := 2) rfl
        have tx3 := TX.cell (o := 3) rfl
        have ty0 := TY.cell (o := 0) rfl
        have ty1 := TY.cell (o := 1) rfl
        have ty2 := TY.cell (o := 2) rfl
        have ty3 := TY.cell (o := 3) rfl
        have ei : (t.idx != t.idx) = false := by simp
        have ek : (t.key.toList != t.key.toList) = false := by simp
        have ed : (t.dat.toList != t.dat.toList) = false := by simp
        have es : ((t.sides.length : Int) != t.sides.length) = false := by simp
        go_wp2
        go_loopw [8] (fun i wi => ∃ r : Nat, r ≤ t.sides.length ∧ i = .int .i64 r ∧ Below w.heap.size w wi ∧ Blk wi (wr.heap.size + 1) #[.int .i64 t.idx, .string t.key, .string t.dat, .slice ps t.sides.length cs] 74 ∧ Blk wi (wr.heap.size) #[.int .i64 t.idx, .string t.key, .string t.dat, .slice ps' t.sides.length cs'] 74 ∧ Blk wi w.heap.size #[.int .i64 cnt, .slice (some ⟨b, off, none⟩) l.length c] 33 ∧ Blk wi (w.heap.size + 1) #[.int .i64 cnt, .slice (some ⟨b', off', none⟩) l.length c'] 33) (fun i _ => t.sides.length - (intOf i).toNat)
        case atStart => exact ⟨0, Nat.zero_le _, rfl, BW, TX, TY, XW, YW⟩
        case round =>
          obtain ⟨r, hr, rfl, hbi, UX, UY, XI, YI⟩ := hrel
          have ux3 := UX.cell (o := 3) rfl
          have uy3 := UY.cell (o := 3) rfl
          by_cases hrl : r < t.sides.length
          · have hdr : decide ((r : Int) < t.sides.length) = true := by simp only [decide_eq_true_eq]; omega
            rcases HS.out with ⟨_, hn⟩ | ⟨bs, os, caps, hvs, hcs⟩
            · rw [hn] at hrl; simp at hrl
            simp only [Value.slice.injEq] at hvs
            obtain ⟨rfl, _, rfl⟩ := hvs
            rcases HS'.out with ⟨_, hn⟩ | ⟨bt, ot, capt, hvt, hct⟩
            · rw [hn] at hrl; simp at hrl
            simp only [Value.slice.injEq] at hvt
            obtain ⟨rfl, _, rfl⟩ := hvt
            obtain ⟨k1, _⟩ := hcs r hrl
            obtain ⟨k2, _⟩ := hct r hrl
            have m1 := (hbi.cell (p := ⟨bs, os + r, none⟩) (World.block_lt_of_cell? w _ k1)).trans k1
            have m2 := (hbi.cell (p := ⟨bt, ot + r, none⟩) (World.block_lt_of_cell? w _ k2)).trans k2
            clear hcs hct k1 k2
            generalize t.sides[r] = g at m1 m2
            have eg : (g.toList != g.toList) = false := by simp
            go_wp2
            go_region
            go_wp2
            go_roundw
            case rel => exact ⟨r + 1, by omega, by go_num, hbi.drew, UX, UY, XI, YI⟩
            case measure => simp [intOf]; omega
          · have hdr : decide ((r : Int) < t.sides.length) = false := by simp only [decide_eq_false_iff_not]; omega
            go_wp2
            go_roundw
            case rel => exact ⟨j + 1, by omega, by go_num, hbi, XI, YI⟩
            case measure => simp [intOf]; omega
    · have hd : decide ((j : Int) < l.length) = false := by simp only [decide_eq_false_iff_not]; omega
      go_wp2
      go_ret
      exact ⟨rfl, hbw⟩
end Go.Proofs.Ytdaonkgcdheplaa
