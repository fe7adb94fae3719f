/- MerkleProves for every input: what it answers. -/
import Derived.Test.YtpcafjbebhcilaaGreatTm16
import Derived.Deep.RegionHeld3
import Derived.Test.YtpcafjbebhcilaaGreatTmUV
import Derived.Test.YtpcafjbebhcilaaGreatTm37
namespace Go.Proofs.YtpcafjbebhcilaaGreat
open Go.RowKit
set_option linter.unusedVariables false
set_option linter.unusedSimpArgs false

set_option maxRecDepth 100000 in
set_option maxHeartbeats 2000000 in
theorem sameProof_same (x : Pf) (va vb : Value) (w : World) (ha : Pts w va x.paths) (hb : Pts w vb x.paths) (hk1 : x.paths.length ≤ 2) (hk2 : ∀ t ∈ x.paths, t.sides.length ≤ 13) :
    Calls Tryz.prog 15 #[x.val va, x.val vb] w fun e w' => e = .returned (.bool true) ∧ Below w.heap.size w w' := by
  obtain ⟨cnt, l⟩ := x
  simp only at ha hb
  have hl2 := hk1
  simp only at hl2
  obtain ⟨p, c, rfl⟩ := ha.len
  obtain ⟨p', c', rfl⟩ := hb.len
  have HA : Hid _ := ha
  have HB : Hid _ := hb
  have HK : Hid (∀ t ∈ l, t.sides.length ≤ 13) := hk2
  clear ha hb hk1 hk2
  have X0 := (blk_new w w.heap.size #[.int .i64 cnt, .slice p l.length c] 36 rfl).alloc (.cells #[.int .i64 cnt, .slice p' l.length c'] 36)
  have Y0 := blk_new (w.alloc (.cells #[.int .i64 cnt, .slice p l.length c] 36)) (w.heap.size + 1) #[.int .i64 cnt, .slice p' l.length c'] 36 (by simp)
  have hB0 : Below w.heap.size w ((w.alloc (.cells #[.int .i64 cnt, .slice p l.length c] 36)).alloc (.cells #[.int .i64 cnt, .slice p' l.length c'] 36)) := by go_grown
  unfold Pf.val
  simp only
  have hcc : (cnt != cnt) = false := by simp
  have hll : ((l.length : Int) != l.length) = false := by simp
  go_enter Tryz.func15, Tryz.ntmps15
  go_wp2
  go_loopw [5] (fun i wr => ∃ j : Nat, j ≤ l.length ∧ i = .int .i64 j ∧ Below w.heap.size w wr ∧ Blk wr w.heap.size #[.int .i64 cnt, .slice p l.length c] 36 ∧ Blk wr (w.heap.size + 1) #[.int .i64 cnt, .slice p' l.length c'] 36) (fun i _ => l.length - (intOf i).toNat)
  case atStart => exact ⟨0, Nat.zero_le _, rfl, hB0, X0, Y0⟩
  case round =>
    obtain ⟨j, hj, rfl, hbw, X, Y⟩ := hrel
    have hz := hbw.size
    clear X0 Y0 hB0
    have x1 := X.cell (o := 1) rfl
    have y1 := Y.cell (o := 1) rfl
    by_cases hlt : j < l.length
    · have hd : decide ((j : Int) < l.length) = true := by simp only [decide_eq_true_eq]; omega
      rcases HA.out with ⟨_, hn⟩ | ⟨b, off, cap, hv, hc⟩
      · rw [hn] at hlt; simp at hlt
      simp only [Value.slice.injEq] at hv
      obtain ⟨rfl, _, rfl⟩ := hv
      rcases HB.out with ⟨_, hn⟩ | ⟨b', off', cap', hv', hc'⟩
      · rw [hn] at hlt; simp at hlt
      simp only [Value.slice.injEq] at hv'
      obtain ⟨rfl, _, rfl⟩ := hv'
      obtain ⟨sv, c1, c2, c3, c4, hS, _⟩ := hc j hlt
      have hbl := World.block_lt_of_cell? w _ c1
      have g1 := (hbw.cell (p := ⟨b, off + j * 4, none⟩) hbl).trans c1
      have g2 := (hbw.cell (p := ⟨b, off + j * 4 + 1, none⟩) hbl).trans c2
      have g3 := (hbw.cell (p := ⟨b, off + j * 4 + 2, none⟩) hbl).trans c3
      have g4 := (hbw.cell (p := ⟨b, off + j * 4 + 3, none⟩) hbl).trans c4
      obtain ⟨sv', c1', c2', c3', c4', hS', _⟩ := hc' j hlt
      have hbl' := World.block_lt_of_cell? w _ c1'
      have g1' := (hbw.cell (p := ⟨b', off' + j * 4, none⟩) hbl').trans c1'
      have g2' := (hbw.cell (p := ⟨b', off' + j * 4 + 1, none⟩) hbl').trans c2'
      have g3' := (hbw.cell (p := ⟨b', off' + j * 4 + 2, none⟩) hbl').trans c3'
      have g4' := (hbw.cell (p := ⟨b', off' + j * 4 + 3, none⟩) hbl').trans c4'
      have hkt := HK.out l[j] (List.getElem_mem hlt)
      clear c1 c2 c3 c4 c1' c2' c3' c4' hc hc'
      generalize l[j] = t at g1 g2 g3 g4 g1' g2' g3' g4' hS hS' hkt
      obtain ⟨ps, cs, rfl⟩ := hS.len
      obtain ⟨ps', cs', rfl⟩ := hS'.len
      have hk4 := hkt
      have HS : Hid _ := hS
      have HS' : Hid _ := hS'
      clear hS hS' hkt
      go_wp2
      go_region_held3 (fun w' => w'.cell? ⟨w.heap.size, 1, none⟩ = some (.slice (some ⟨b, off, none⟩) l.length c) ∧ w'.cell? ⟨w.heap.size + 1, 1, none⟩ = some (.slice (some ⟨b', off', none⟩) l.length c') ∧
          w'.cell? ⟨b, off + j * 4, none⟩ = some (.int .i64 t.idx) ∧ w'.cell? ⟨b, off + j * 4 + 1, none⟩ = some (.string t.key) ∧ w'.cell? ⟨b, off + j * 4 + 2, none⟩ = some (.string t.dat) ∧ w'.cell? ⟨b, off + j * 4 + 3, none⟩ = some (.slice ps t.sides.length cs) ∧
          w'.cell? ⟨b', off' + j * 4, none⟩ = some (.int .i64 t.idx) ∧ w'.cell? ⟨b', off' + j * 4 + 1, none⟩ = some (.string t.key) ∧ w'.cell? ⟨b', off' + j * 4 + 2, none⟩ = some (.string t.dat) ∧ w'.cell? ⟨b', off' + j * 4 + 3, none⟩ = some (.slice ps' t.sides.length cs')) (go_keep) (fail)
      · obtain ⟨W, hW, TX, TY, XW, YW, BW⟩ : ∃ W, ((wr.alloc (.cells #[.int .i64 t.idx, .string t.key, .string t.dat, .slice ps t.sides.length cs] 80)).alloc (.cells #[.int .i64 t.idx, .string t.key, .string t.dat, .slice ps' t.sides.length cs'] 80)).drew = W ∧ Blk W (wr.heap.size) #[.int .i64 t.idx, .string t.key, .string t.dat, .slice ps t.sides.length cs] 80 ∧ Blk W (wr.heap.size + 1) #[.int .i64 t.idx, .string t.key, .string t.dat, .slice ps' t.sides.length cs'] 80 ∧ Blk W w.heap.size #[.int .i64 cnt, .slice (some ⟨b, off, none⟩) l.length c] 36 ∧ Blk W (w.heap.size + 1) #[.int .i64 cnt, .slice (some ⟨b', off', none⟩) l.length c'] 36 ∧ Below w.heap.size w W := by
          refine ⟨_, rfl, ?_, ?_, ?_, ?_, ?_⟩
          · exact ((blk_new wr wr.heap.size _ _ rfl).alloc _ : Blk ((wr.alloc (.cells #[.int .i64 t.idx, .string t.key, .string t.dat, .slice ps t.sides.length cs] 80)).alloc (.cells #[.int .i64 t.idx, .string t.key, .string t.dat, .slice ps' t.sides.length cs'] 80)) _ _ _)
          · exact (blk_new (wr.alloc (.cells #[.int .i64 t.idx, .string t.key, .string t.dat, .slice ps t.sides.length cs] 80)) (wr.heap.size + 1) _ _ (by simp) : Blk ((wr.alloc (.cells #[.int .i64 t.idx, .string t.key, .string t.dat, .slice ps t.sides.length cs] 80)).alloc (.cells #[.int .i64 t.idx, .string t.key, .string t.dat, .slice ps' t.sides.length cs'] 80)) _ _ _)
          · exact ((X.alloc _).alloc _ : Blk ((wr.alloc (.cells #[.int .i64 t.idx, .string t.key, .string t.dat, .slice ps t.sides.length cs] 80)).alloc (.cells #[.int .i64 t.idx, .string t.key, .string t.dat, .slice ps' t.sides.length cs'] 80)) _ _ _)
          · exact ((Y.alloc _).alloc _ : Blk ((wr.alloc (.cells #[.int .i64 t.idx, .string t.key, .string t.dat, .slice ps t.sides.length cs] 80)).alloc (.cells #[.int .i64 t.idx, .string t.key, .string t.dat, .slice ps' t.sides.length cs'] 80)) _ _ _)
          · exact ((hbw.alloc hz _).alloc (by simp; omega) _).drew
        rw [hW]
        clear hW
        have tx0 := TX.cell (o := 0) rfl
        have tx1 := TX.cell (o := 1) rfl
        have tx2 := TX.cell (o := 2) rfl
        have tx3 := TX.cell (o := 3) rfl
        have ty0 := TY.cell (o := 0) rfl
        have ty1 := TY.cell (o := 1) rfl
        have ty2 := TY.cell (o := 2) rfl
        have ty3 := TY.cell (o := 3) rfl
        have ei : (t.idx != t.idx) = false := by simp
        have ek : (t.key.toList != t.key.toList) = false := by simp
        have ed : (t.dat.toList != t.dat.toList) = false := by simp
        have es : ((t.sides.length : Int) != t.sides.length) = false := by simp
        go_wp2
        go_loopw [8] (fun i wi => ∃ r : Nat, r ≤ t.sides.length ∧ i = .int .i64 r ∧ Below w.heap.size w wi ∧ Blk wi (wr.heap.size) #[.int .i64 t.idx, .string t.key, .string t.dat, .slice ps t.sides.length cs] 80 ∧ Blk wi (wr.heap.size + 1) #[.int .i64 t.idx, .string t.key, .string t.dat, .slice ps' t.sides.length cs'] 80 ∧ Blk wi w.heap.size #[.int .i64 cnt, .slice (some ⟨b, off, none⟩) l.length c] 36 ∧ Blk wi (w.heap.size + 1) #[.int .i64 cnt, .slice (some ⟨b', off', none⟩) l.length c'] 36) (fun i _ => t.sides.length - (intOf i).toNat)
        case atStart => exact ⟨0, Nat.zero_le _, rfl, BW, TX, TY, XW, YW⟩
        case round =>
          obtain ⟨r, hr, rfl, hbi, UX, UY, XI, YI⟩ := hrel
          have ux3 := UX.cell (o := 3) rfl
          have uy3 := UY.cell (o := 3) rfl
          by_cases hrl : r < t.sides.length
          · have hdr : decide ((r : Int) < t.sides.length) = true := by simp only [decide_eq_true_eq]; omega
            rcases HS.out with ⟨_, hn⟩ | ⟨bs, os, caps, hvs, hcs⟩
            · rw [hn] at hrl; simp at hrl
            simp only [Value.slice.injEq] at hvs
            obtain ⟨rfl, _, rfl⟩ := hvs
            rcases HS'.out with ⟨_, hn⟩ | ⟨bt, ot, capt, hvt, hct⟩
            · rw [hn] at hrl; simp at hrl
            simp only [Value.slice.injEq] at hvt
            obtain ⟨rfl, _, rfl⟩ := hvt
            obtain ⟨k1, _⟩ := hcs r hrl
            obtain ⟨k2, _⟩ := hct r hrl
            have m1 := (hbi.cell (p := ⟨bs, os + r, none⟩) (World.block_lt_of_cell? w _ k1)).trans k1
            have m2 := (hbi.cell (p := ⟨bt, ot + r, none⟩) (World.block_lt_of_cell? w _ k2)).trans k2
            clear hcs hct k1 k2
            generalize t.sides[r] = g at m1 m2
            have eg : (g.toList != g.toList) = false := by simp
            go_wp2
            go_region
            go_wp2
            go_roundw
            case rel => exact ⟨r + 1, by omega, by go_num, hbi.drew, UX, UY, XI, YI⟩
            case measure => simp [intOf]; omega
          · have hdr : decide ((r : Int) < t.sides.length) = false := by simp only [decide_eq_false_iff_not]; omega
            go_wp2
            go_roundw
            case rel => exact ⟨j + 1, by omega, by go_num, hbi, XI, YI⟩
            case measure => simp [intOf]; omega
      · obtain ⟨W, hW, TX, TY, XW, YW, BW⟩ : ∃ W, ((wr.alloc (.cells #[.int .i64 t.idx, .string t.key, .string t.dat, .slice ps' t.sides.length cs'] 80)).alloc (.cells #[.int .i64 t.idx, .string t.key, .string t.dat, .slice ps t.sides.length cs] 80)).drew = W ∧ Blk W (wr.heap.size + 1) #[.int .i64 t.idx, .string t.key, .string t.dat, .slice ps t.sides.length cs] 80 ∧ Blk W (wr.heap.size) #[.int .i64 t.idx, .string t.key, .string t.dat, .slice ps' t.sides.length cs'] 80 ∧ Blk W w.heap.size #[.int .i64 cnt, .slice (some ⟨b, off, none⟩) l.length c] 36 ∧ Blk W (w.heap.size + 1) #[.int .i64 cnt, .slice (some ⟨b', off', none⟩) l.length c'] 36 ∧ Below w.heap.size w W := by
          refine ⟨_, rfl, ?_, ?_, ?_, ?_, ?_⟩
          · exact (blk_new (wr.alloc (.cells #[.int .i64 t.idx, .string t.key, .string t.dat, .slice ps' t.sides.length cs'] 80)) (wr.heap.size + 1) _ _ (by simp) : Blk ((wr.alloc (.cells #[.int .i64 t.idx, .string t.key, .string t.dat, .slice ps' t.sides.length cs'] 80)).alloc (.cells #[.int .i64 t.idx, .string t.key, .string t.dat, .slice ps t.sides.length cs] 80)) _ _ _)
          · exact ((blk_new wr wr.heap.size _ _ rfl).alloc _ : Blk ((wr.alloc (.cells #[.int .i64 t.idx, .string t.key, .string t.dat, .slice ps' t.sides.length cs'] 80)).alloc (.cells #[.int .i64 t.idx, .string t.key, .string t.dat, .slice ps t.sides.length cs] 80)) _ _ _)
          · exact ((X.alloc _).alloc _ : Blk ((wr.alloc (.cells #[.int .i64 t.idx, .string t.key, .string t.dat, .slice ps' t.sides.length cs'] 80)).alloc (.cells #[.int .i64 t.idx, .string t.key, .string t.dat, .slice ps t.sides.length cs] 80)) _ _ _)
          · exact ((Y.alloc _).alloc _ : Blk ((wr.alloc (.cells #[.int .i64 t.idx, .string t.key, .string t.dat, .slice ps' t.sides.length cs'] 80)).alloc (.cells #[.int .i64 t.idx, .string t.key, .string t.dat, .slice ps t.sides.length cs] 80)) _ _ _)
          · exact ((hbw.alloc hz _).alloc (by simp; omega) _).drew
        rw [hW]
        clear hW
        have tx0 := TX.cell (o := 0) rfl
        have tx1 := TX.cell (o := 1) rfl
        have tx2 := TX.cell (o := 2) rfl
        have tx3 := TX.cell (o := 3) rfl
        have ty0 := TY.cell (o := 0) rfl
        have ty1 := TY.cell (o := 1) rfl
        have ty2 := TY.cell (o := 2) rfl
        have ty3 := TY.cell (o := 3) rfl
        have ei : (t.idx != t.idx) = false := by simp
        have ek : (t.key.toList != t.key.toList) = false := by simp
        have ed : (t.dat.toList != t.dat.toList) = false := by simp
        have es : ((t.sides.length : Int) != t.sides.length) = false := by simp
        go_wp2
        go_loopw [8] (fun i wi => ∃ r : Nat, r ≤ t.sides.length ∧ i = .int .i64 r ∧ Below w.heap.size w wi ∧ Blk wi (wr.heap.size + 1) #[.int .i64 t.idx, .string t.key, .string t.dat, .slice ps t.sides.length cs] 80 ∧ Blk wi (wr.heap.size) #[.int .i64 t.idx, .string t.key, .string t.dat, .slice ps' t.sides.length cs'] 80 ∧ Blk wi w.heap.size #[.int .i64 cnt, .slice (some ⟨b, off, none⟩) l.length c] 36 ∧ Blk wi (w.heap.size + 1) #[.int .i64 cnt, .slice (some ⟨b', off', none⟩) l.length c'] 36) (fun i _ => t.sides.length - (intOf i).toNat)
        case atStart => exact ⟨0, Nat.zero_le _, rfl, BW, TX, TY, XW, YW⟩
        case round =>
          obtain ⟨r, hr, rfl, hbi, UX, UY, XI, YI⟩ := hrel
          have ux3 := UX.cell (o := 3) rfl
          have uy3 := UY.cell (o := 3) rfl
          by_cases hrl : r < t.sides.length
          · have hdr : decide ((r : Int) < t.sides.length) = true := by simp only [decide_eq_true_eq]; omega
            rcases HS.out with ⟨_, hn⟩ | ⟨bs, os, caps, hvs, hcs⟩
            · rw [hn] at hrl; simp at hrl
            simp only [Value.slice.injEq] at hvs
            obtain ⟨rfl, _, rfl⟩ := hvs
            rcases HS'.out with ⟨_, hn⟩ | ⟨bt, ot, capt, hvt, hct⟩
            · rw [hn] at hrl; simp at hrl
            simp only [Value.slice.injEq] at hvt
            obtain ⟨rfl, _, rfl⟩ := hvt
            obtain ⟨k1, _⟩ := hcs r hrl
            obtain ⟨k2, _⟩ := hct r hrl
            have m1 := (hbi.cell (p := ⟨bs, os + r, none⟩) (World.block_lt_of_cell? w _ k1)).trans k1
            have m2 := (hbi.cell (p := ⟨bt, ot + r, none⟩) (World.block_lt_of_cell? w _ k2)).trans k2
            clear hcs hct k1 k2
            generalize t.sides[r] = g at m1 m2
            have eg : (g.toList != g.toList) = false := by simp
            go_wp2
            go_region
            go_wp2
            go_roundw
            case rel => exact ⟨r + 1, by omega, by go_num, hbi.drew, UX, UY, XI, YI⟩
            case measure => simp [intOf]; omega
          · have hdr : decide ((r : Int) < t.sides.length) = false := by simp only [decide_eq_false_iff_not]; omega
            go_wp2
            go_roundw
            case rel => exact ⟨j + 1, by omega, by go_num, hbi, XI, YI⟩
            case measure => simp [intOf]; omega
    · have hd : decide ((j : Int) < l.length) = false := by simp only [decide_eq_false_iff_not]; omega
      go_wp2
      go_ret
      exact ⟨rfl, hbw⟩
end Go.Proofs.YtpcafjbebhcilaaGreat

namespace Go.Proofs.YtpcafjbebhcilaaGreat
open Go.RowKit
set_option linter.unusedSimpArgs false
set_option linter.unusedVariables false
variable {p b x y : Nat} {T : List ByteArray} {S : List (Int × ByteArray)}

theorem pathOk_same {l : List Rc} {ls : List ByteArray} {i : Nat} {t u : Pt} (h : PathOk T l ls i t) (k : PathOk T l ls i u) : t = u := by
  obtain ⟨h1, m, h2, h3, h4, h5⟩ := h
  obtain ⟨k1, n, k2, k3, k4, k5⟩ := k
  rw [h2] at k2
  injection k2 with k2
  subst k2
  have hs := h5.same k5
  cases t; cases u
  simp only at h1 h3 h4 hs k1 k3 k4
  rw [h1, h3, h4, hs, k1, k3, k4]
/-- Paths of these records, one by one. -/
def PF (T : List ByteArray) (l : List Rc) (ls : List ByteArray) (sI : List Nat) (ts : List Pt) : Prop := ts.length = sI.length ∧ ∀ (j i : Nat), sI[j]? = some i → ∃ t, ts[j]? = some t ∧ PathOk T l ls i t
theorem PF.ext {T T' : List ByteArray} {l : List Rc} {ls : List ByteArray} {sI : List Nat} {ts : List Pt} (h : PF T l ls sI ts) (e : Ext T T') : PF T' l ls sI ts :=
  ⟨h.1, fun j i hj => by obtain ⟨t, h1, h2⟩ := h.2 j i hj; exact ⟨t, h1, h2.ext e⟩⟩
theorem PF.same {l : List Rc} {ls : List ByteArray} {sI : List Nat} {ts us : List Pt} (h : PF T l ls sI ts) (k : PF T l ls sI us) : ts = us := by
  apply List.ext_getElem?
  intro j
  by_cases hj : j < sI.length
  · obtain ⟨t, h1, h2⟩ := h.2 j _ (List.getElem?_eq_getElem hj)
    obtain ⟨u, k1, k2⟩ := k.2 j _ (List.getElem?_eq_getElem hj)
    rw [h1, k1, pathOk_same h2 k2]
  · rw [List.getElem?_eq_none (by rw [h.1]; omega), List.getElem?_eq_none (by rw [k.1]; omega)]
theorem PF.one {l : List Rc} {ls : List ByteArray} {i : Nat} {t : Pt} (h : PathOk T l ls i t) : PF T l ls [i] [t] :=
  ⟨rfl, fun j k hj => by
    match j, hj with
    | 0, hj => simp only [List.getElem?_cons_zero, Option.some.injEq] at hj; subst hj; exact ⟨t, rfl, h⟩
    | j + 1, hj => simp at hj⟩
theorem PF.two {l : List Rc} {ls : List ByteArray} {i k : Nat} {t u : Pt} (h : PathOk T l ls i t) (h' : PathOk T l ls k u) : PF T l ls [i, k] [t, u] :=
  ⟨rfl, fun j m hj => by
    match j, hj with
    | 0, hj => simp only [List.getElem?_cons_zero, Option.some.injEq] at hj; subst hj; exact ⟨t, rfl, h⟩
    | 1, hj => simp only [List.getElem?_cons_succ, List.getElem?_cons_zero, Option.some.injEq] at hj; subst hj; exact ⟨u, rfl, h'⟩
    | j + 2, hj => simp at hj⟩
theorem PF.none {l : List Rc} {ls : List ByteArray} : PF T l ls [] [] := ⟨rfl, fun j i hj => by simp at hj⟩
theorem PathsOk.pf {l : List Rc} {ls : List ByteArray} {key : ByteArray} {r : Nat} {ts : List Pt} (h : PathsOk T l ls key r ts) (hr : r ≤ l.length) : PF T l ls (shownI l r key) ts := by
  unfold shownI
  by_cases hh : hasAt l r key = true
  · rw [if_pos hh]
    obtain ⟨t, rfl, ht⟩ := h.1 hh
    exact PF.one ht
  · rw [if_neg hh]
    have hh' : hasAt l r key = false := by simpa using hh
    obtain ⟨A, B, rfl, hA, hB⟩ := h.2 hh'
    by_cases h0 : l.length = 0
    · rw [if_pos h0]
      obtain rfl := hA.1 (by omega)
      obtain rfl := hB.1 (by omega)
      exact PF.none
    · rw [if_neg h0]
      by_cases h1 : r = 0
      · rw [if_pos h1]
        obtain rfl := hA.1 h1
        obtain ⟨t, rfl, ht⟩ := hB.2 (by omega)
        subst h1
        exact PF.one ht
      · rw [if_neg h1]
        obtain ⟨t, rfl, ht⟩ := hA.2 (by omega)
        by_cases h2 : r = l.length
        · rw [if_pos h2]
          obtain rfl := hB.1 (by omega)
          exact PF.one ht
        · rw [if_neg h2]
          obtain ⟨u, rfl, hu⟩ := hB.2 (by omega)
          exact PF.two ht hu
theorem shownI_ok {l : List Rc} {r : Nat} {key : ByteArray} (hr : r ≤ l.length) : (shownI l r key).length ≤ 2 ∧ ∀ (j i : Nat), (shownI l r key)[j]? = some i → i < l.length := by
  unfold shownI
  have hlt : hasAt l r key = true → r < l.length := fun h => by
    unfold hasAt at h
    cases e : l[r]? with
    | none => rw [e] at h; cases h
    | some m => exact (List.getElem?_eq_some_iff.1 e).1
  have one : ∀ k : Nat, k < l.length → ∀ (j i : Nat), [k][j]? = some i → i < l.length := fun k hk j i hj => by
    match j, hj with
    | 0, hj => simp at hj; omega
    | j + 1, hj => simp at hj
  split
  · rename_i h; exact ⟨by simp, one r (hlt h)⟩
  · split
    · exact ⟨by simp, fun j i hj => by simp at hj⟩
    · split
      · exact ⟨by simp, one 0 (by omega)⟩
      · split
        · exact ⟨by simp, one (r - 1) (by omega)⟩
        · refine ⟨by simp, fun j i hj => ?_⟩
          match j, hj with
          | 0, hj => simp at hj; omega
          | 1, hj => simp at hj; omega
          | j + 2, hj => simp at hj
theorem PF.snoc {l : List Rc} {ls : List ByteArray} {sI : List Nat} {k i : Nat} {ts : List Pt} {t : Pt} (h : PF T l ls (sI.take k) ts) (hi : sI[k]? = some i) (ht : PathOk T l ls i t) : PF T l ls (sI.take (k + 1)) (ts ++ [t]) := by
  have hk := (List.getElem?_eq_some_iff.1 hi).1
  have hl : ts.length = k := by have := h.1; rw [List.length_take] at this; omega
  rw [List.take_add_one, hi]
  refine ⟨by simp [h.1], fun j m hj => ?_⟩
  by_cases hjk : j < k
  · rw [List.getElem?_append_left (by rw [List.length_take]; omega)] at hj
    obtain ⟨u, h1, h2⟩ := h.2 j m hj
    exact ⟨u, by rw [List.getElem?_append_left (by omega)]; exact h1, h2⟩
  · rw [List.getElem?_append_right (by rw [List.length_take]; omega)] at hj
    have e : j - (sI.take k).length = 0 := by
      have := (List.getElem?_eq_some_iff.1 hj).1
      simp at this
      rw [List.length_take]; omega
    rw [e] at hj
    simp at hj
    subst hj
    rw [List.length_take] at e
    exact ⟨t, by rw [List.getElem?_append_right (by omega), show j - ts.length = 0 by omega]; rfl, ht⟩
theorem proof_results {w' : World} {c0 c1 : Value} {r : Nat} (X : Blk w' r #[c0, c1] 36) {t : Array Value} (h1 : t.getD 6 undef = .pointer (some ⟨r, 0, none⟩)) :
    (results Tryz.f16 t).run Tryz.prog w' = .ok (.agg #[c0, c1]) w' := by
  have a0 := X.cell (o := 0) rfl
  have a1 := X.cell (o := 1) rfl
  simp only [Array.getD_eq_getD_getElem?] at h1
  simp [results, Tryz.results16, go_sem, h1, a0, a1]
set_option maxHeartbeats 8000000 in
set_option maxRecDepth 100000 in
theorem proof_law (v : Value) (l : List Rc) (ls : List ByteArray) (key : ByteArray) (r : Nat) (w : World) (hr : Rcs w v l) (hl : l.length ≤ 4096) (hri : Rising l) (hsp : Spot l key r) (hz : ∀ m ∈ l, m.key.size ≤ 64 ∧ m.dat.size ≤ 4096) (hlv : Lvs T l ls) (h : Book w p b x y T S) (hT : T.length < 800000) :
    Calls Tryz.prog 16 #[.pointer (some ⟨p, 0, none⟩), v, .string key] w fun e w' => ∃ (L : List (Pt × Value)) (T' : List ByteArray) (pv : Option Addr) (cv : Nat), e = .returned (.agg #[.int .i64 l.length, .slice pv L.length cv]) ∧ PF T' l ls (shownI l r key) (L.map Prod.fst) ∧ w'.ownsRow w.heap.size 80 4 (.slice pv L.length cv) L.length (ptC L) ∧ (∀ q ∈ L, w'.ownsRow w.heap.size 9 1 q.2 q.1.sides.length (txC q.1.sides)) ∧ Grew x y p b T S w (4 * l.length) T' w' := by
  obtain ⟨iP, hi_, hi0, hi1, hi2⟩ := info_parts infoPath3
  obtain ⟨a, cap, rfl⟩ := hr.len
  have hsO := shownI_ok (key := key) hsp.le
  obtain ⟨sI, hsI⟩ : ∃ sI, shownI l r key = sI := ⟨_, rfl⟩
  obtain ⟨W1, hW1, X1, B1, Z1⟩ : ∃ W1, w.alloc (.cells #[.int .i64 0, .slice none 0 0] 36) = W1 ∧ Blk W1 w.heap.size #[.int .i64 0, .slice none 0 0] 36 ∧ Below w.heap.size w W1 ∧ W1.heap.size = w.heap.size + 1 :=
    ⟨_, rfl, blk_new _ _ _ _ rfl, by go_grown, by simp⟩
  obtain ⟨W2, hW2, X2, XP, B2, Z2⟩ : ∃ W2, W1.alloc (.cells #[.int .i64 0, .slice none 0 0] 36) = W2 ∧ Blk W2 w.heap.size #[.int .i64 0, .slice none 0 0] 36 ∧ Blk W2 (w.heap.size + 1) #[.int .i64 0, .slice none 0 0] 36 ∧ Below w.heap.size w W2 ∧ W2.heap.size = w.heap.size + 2 :=
    ⟨_, rfl, X1.alloc _, blk_new _ _ _ _ (by rw [Z1]), B1.alloc (by omega) _, by simp [Z1]⟩
  obtain ⟨W3, hW3, X3, hoth, Z3, ho3⟩ := setRow_named XP #[.int .i64 l.length, .slice none 0 0]
  have B3 : Below w.heap.size w W3 := below_row B2 hW3 (by omega)
  have Y3 : Blk W3 w.heap.size #[.int .i64 0, .slice none 0 0] 36 := blk_row X2 hW3 (by omega)
  have HS : Hid _ := shown_calls (.slice a l.length cap) l key r W3 (hr.below B3) hl hri hsp
  rw [hsI] at HS hsO
  have HSO : Hid _ := hsO
  have hs2 := hsO.1
  have HSI : Hid _ := hsI
  have HRC : Hid (∀ wx, Off2 x y w wx → Rcs wx (.slice a l.length cap) l) := fun wx ho => hr.off2 h ho
  have HLV : Hid _ := hlv
  have HZZ : Hid _ := hz
  have HB0 : Hid _ := h
  have hlts := h.lts
  have z3 := B3.size
  clear hsO hsI hr hlv hz hsp hri X1 X2 h
  go_enter Tryz.func16, Tryz.ntmps16
  go_wp2_with ((with_reducible refine st_row (ty := 36) XP (infoPf2 _ _) (pfSame _ _ _ _) (pfOne _ _ _ _) hW3 ?_ ?_ ?_); rfl; rfl)
  refine Calls.mono HS.out ?_
  rintro e w4 ⟨sv, rfl, hix, b4⟩
  obtain ⟨ia, icap, rfl⟩ := own_sliceM hix
  have hix2 : w4.ownsRow (w.heap.size + 2) 3 1 (.slice ia sI.length icap) sI.length (ixC sI) := ownsRow_weakM hix (by omega)
  have z4 := b4.size
  have G4 : Grew x y p b T S w 0 T w4 := (Grew.refl HB0.out).below (chain B3 b4)
  have HIX : Hid _ := hix2
  have X4 := X3.below b4
  have Y4 := Y3.below b4
  have HG4 : Hid _ := G4
  clear hix hix2 HS X3 Y3 XP hoth ho3 hW1 hW2 hW3 B1 B2 G4
  go_wp2_with fail
  go_loopw [9] (fun iv wr => ∃ (k : Nat) (L : List (Pt × Value)) (T1 : List ByteArray) (pv : Option Addr) (cv : Nat), k ≤ sI.length ∧ iv = .int .i64 k ∧ L.length = k ∧ Blk wr (w.heap.size + 1) #[.int .i64 l.length, .slice pv L.length cv] 36 ∧ Blk wr w.heap.size #[.int .i64 0, .slice none 0 0] 36 ∧ wr.ownsRow (w.heap.size + 2) 80 4 (.slice pv L.length cv) L.length (ptC L) ∧ Hid (∀ q ∈ L, wr.ownsRow (w.heap.size + 2) 9 1 q.2 q.1.sides.length (txC q.1.sides)) ∧ Hid (PF T1 l ls (sI.take k) (L.map Prod.fst)) ∧ Grew x y p b T S w (k * (2 * l.length)) T1 wr ∧ Hid (wr.ownsRow (w.heap.size + 2) 3 1 (.slice ia sI.length icap) sI.length (ixC sI)) ∧ w.heap.size + 2 ≤ wr.heap.size) (fun iv _ => sI.length - (intOf iv).toNat)
  case atStart => exact ⟨0, [], T, none, 0, Nat.zero_le _, rfl, rfl, X4, Y4, World.ownsRow_nil _ _ _ _, (fun q hq => by simp at hq), (by rw [List.take_zero]; exact PF.none), HG4.out.le (by omega), HIX, by omega⟩
  case round =>
    clear X4 Y4 HG4 HIX
    obtain ⟨k, A, T1, pv, cv, hk, rfl, hAk, hP, hR, ho, HOS, HPF, G, HOF, hz5⟩ := hrel
    obtain ⟨w6, hw6⟩ : ∃ w6, w6 = wr := ⟨_, rfl⟩
    subst hw6
    by_cases hlt : k < sI.length
    · have hkl : (k : Int) < (sI.length : Int) := by omega
      obtain ⟨gi, icap', eia, _, _, hrx⟩ := own_at HOF.out (by omega)
      simp only [Value.slice.injEq, true_and] at eia
      obtain ⟨rfl, rfl⟩ := eia
      obtain ⟨i, hi⟩ : ∃ i, sI[k]? = some i := ⟨sI[k], by simp [hlt]⟩
      have hil := HSO.out.2 k i hi
      have hci : w6.cell? ⟨gi, k, none⟩ = some (.int .i64 (i : Nat)) := hrx k _ (by simp [ixC, hi])
      obtain ⟨m, hm⟩ : ∃ m, l[i]? = some m := ⟨l[i], List.getElem?_eq_getElem hil⟩
      have lG := G.len
      have hkb : k * (2 * l.length) ≤ 2 * (2 * l.length) := Nat.mul_le_mul_right _ (by omega)
      have HPL : Hid _ := path_law i (.slice a l.length cap) l ls m w6.drew (HRC.out _ (G.off.trans (Off2.of_below (Below.refl _ _).drew))) hl hm HZZ.out (Lvs.ext G.ext HLV.out) (G.book.below (Below.refl _ _).drew) (by omega)
      have HM : Hid _ := hm
      have HI : Hid _ := hi
      have c4 : w6.cell? ⟨w.heap.size + 1, 1, none⟩ = some (.slice pv A.length cv) := hP.cell rfl
      have hPd := hP.drew
      have hRd := hR.drew
      have hod := own_below ho (Below.refl _ _).drew
      have HOSD : Hid (∀ q ∈ A, w6.drew.ownsRow (w.heap.size + 2) 9 1 q.2 q.1.sides.length (txC q.1.sides)) := fun q hq => own_below (HOS.out q hq) (Below.refl _ _).drew
      have GD : Grew x y p b T S w (k * (2 * l.length)) T1 w6.drew := G.below (Below.refl _ _).drew
      have HKE : Hid _ := hkb
      have hA2 : A.length ≤ 2 := by omega
      have HAK : Hid _ := hAk
      have HIXD : Hid _ := own_below HOF.out (Below.refl _ _).drew
      clear hm hi hP hR ho HOS hAk hkb hrx
      go_wp2_with fail
      refine wp_region_any (by kernel_rfl) ?_
      change wpAny _ _ _ _ _ _ _ (World.drew _)
      refine wpAny_take (i := 0) (v := (.pointer (some ⟨w.heap.size + 1, 1, none⟩))) rfl (by kernel_rfl) (by kernel_rfl) (by kernel_rfl) (fun _ _ _ h => h) (Or.inl ⟨by rfl, fun w => by go_simp⟩) ?_
      refine wpAny_take (i := 2) (v := (.pointer (some ⟨p, 0, none⟩))) rfl (by kernel_rfl) (by kernel_rfl) (by kernel_rfl) (fun _ _ _ h => h) (Or.inl ⟨by rfl, fun w => by go_simp⟩) ?_
      refine wpAny_take (i := 3) (v := (.slice a l.length cap)) rfl (by kernel_rfl) (by kernel_rfl) (by kernel_rfl) (fun _ _ _ h => h) (Or.inl ⟨by rfl, fun w => by go_simp⟩) ?_
      refine wpAny_take (i := 4) (v := (.slice (some ⟨gi, 0, none⟩) sI.length icap)) rfl (by kernel_rfl) (by kernel_rfl) (by kernel_rfl) (fun _ _ _ h => h) (Or.inl ⟨by rfl, fun w => by go_simp⟩) ?_
      refine wpAny_take (i := 5) (v := (.int .i64 k)) rfl (by kernel_rfl) (by kernel_rfl) (by kernel_rfl) (fun _ _ _ h => h) (Or.inl ⟨by rfl, fun w => by go_simp⟩) ?_
      refine wpAny_take (i := 6) (v := (.pointer (some ⟨gi, k, none⟩))) rfl (by kernel_rfl) (by kernel_rfl) (by kernel_rfl) (fun _ _ _ h => h) (Or.inl ⟨by rfl, fun w => by go_simp⟩) ?_
      refine wpAny_ready (rs := [1, 7]) (by kernel_rfl) (by simp) ?_
      refine AllReady.cons rfl (fun K hK => ?_) (AllReady.cons rfl (fun K hK => ?_) AllReady.nil)
      · go_simp
        refine hK _ _ ?_
        clear hK
        refine wpAny_ready (rs := [7]) (by kernel_rfl) (by simp) ?_
        refine AllReady.cons rfl (fun K hK => ?_) AllReady.nil
        go_simp
        refine hK _ _ ?_
        clear hK
        refine wpAny_ready (rs := [8]) (by kernel_rfl) (by simp) ?_
        refine AllReady.cons rfl (fun K hK => ?_) AllReady.nil
        go_simp
        refine Calls.mono HPL.out ?_
        rintro e w5 ⟨sv5, ss, T2, rfl, t1, o5, G5⟩
        refine hK _ _ ?_
        clear hK
        obtain ⟨ps, cs, rfl⟩ := own_sliceM o5
        have z5 := G5.off.size
        have hzd : w6.drew.heap.size = w6.heap.size := rfl
        have P5 := hPd.off2 G5.off (by omega) (by omega)
        have R5 := hRd.off2 G5.off (by omega) (by omega)
        have ho5 := own_off2 GD.book hod G5.off
        have hos5 : ∀ q ∈ A, w5.ownsRow (w.heap.size + 2) 9 1 q.2 q.1.sides.length (txC q.1.sides) := fun q hq => own_off2 GD.book (HOSD.out q hq) G5.off
        have c5 : w5.cell? ⟨w.heap.size + 1, 1, none⟩ = some (.slice pv A.length cv) := P5.cell rfl
        have c6 : (w5.alloc (.cells #[.int .i64 (i : Nat), .string m.key, .string m.dat, .slice ps ss.length cs] 80)).cell? ⟨w.heap.size + 1, 1, none⟩ = some (.slice pv A.length cv) := (P5.alloc _).cell rfl
        refine wpAny_ready (rs := [9]) (by kernel_rfl) (by simp) ?_
        refine AllReady.cons rfl (fun K hK => ?_) AllReady.nil
        go_simp
        refine hK _ _ ?_
        clear hK
        refine wpAny_ready (rs := [10]) (by kernel_rfl) (by simp) ?_
        refine AllReady.cons rfl (fun K hK => ?_) AllReady.nil
        refine step_ifM rfl ?_
        refine wp_append_own _ (.tmp 23) (.tmp 31) 34 (by kernel_rfl) (w.heap.size + 2) 80 iP (.agg #[.int .i64 0, .string ⟨#[]⟩, .string ⟨#[]⟩, .slice none 0 0]) 4 64 Tryz.underlying34 hi_ hi0 hi1 hi2 rfl (by decide) (.slice pv A.length cv) A.length (ptC A) (by kernel_rfl) (ho5.alloc _) ⟨w5.heap.size, 0, none⟩ 1 1 [.int .i64 (i : Nat), .string m.key, .string m.dat, .slice ps ss.length cs] (by kernel_rfl) rfl ?_ ?_ ?_ ?_ ?_ ?_
        · intro j u hj
          rw [Addr.add_mid, Nat.zero_add]
          exact (blk_new w5 w5.heap.size _ _ rfl).cell (by simpa using hj)
        · intro u hu
          simp at hu
          rcases hu with rfl | rfl | rfl | rfl <;> rfl
        · unfold maxLen; omega
        · omega
        · simp; omega
        intro v' w7 hown' hgrow _
        obtain ⟨pv', cv', rfl⟩ := own_sliceM hown'
        have zg := hgrow.size
        simp at zg
        have P7 : Blk w7 (w.heap.size + 1) #[.int .i64 l.length, .slice pv A.length cv] 36 := (hgrow.block (w.heap.size + 1) (by simp; omega) (fun e => by have := (ho5.lt _ e.symm).1; omega)).trans (P5.alloc _)
        have R7 : Blk w7 w.heap.size #[.int .i64 0, .slice none 0 0] 36 := (hgrow.block w.heap.size (by simp; omega) (fun e => by have := (ho5.lt _ e.symm).1; omega)).trans (R5.alloc _)
        have hos7 : ∀ q ∈ A, w7.ownsRow (w.heap.size + 2) 9 1 q.2 q.1.sides.length (txC q.1.sides) := fun q hq => (World.ownsRow.alloc (hos5 q hq) _).kept hgrow (own_twoM ((hos5 q hq).alloc (.cells #[.int .i64 (i : Nat), .string m.key, .string m.dat, .slice ps ss.length cs] 80)) (ho5.alloc _) (by decide))
        have o7 : w7.ownsRow (w.heap.size + 2) 9 1 (.slice ps ss.length cs) ss.length (txC ss) := (World.ownsRow.alloc (ownsRow_weakM o5 (by omega)) _).kept hgrow (own_twoM ((ownsRow_weakM o5 (base2 := w.heap.size + 2) (by omega)).alloc (.cells #[.int .i64 (i : Nat), .string m.key, .string m.dat, .slice ps ss.length cs] 80)) (ho5.alloc _) (by decide))
        have G6 := (GD.trans G5).below ((Below.refl w5.heap.size w5).alloc (Nat.le_refl _) (.cells #[.int .i64 (i : Nat), .string m.key, .string m.dat, .slice ps ss.length cs] 80))
        have G7 := G6.grown (ho5.alloc _) (by decide) (by decide) (by omega) hgrow
        have f7 : w7.frozen? ⟨w.heap.size + 1, 1, none⟩ = false := P7.frozen
        have c7 : w7.cell? ⟨w.heap.size + 1, 1, none⟩ = some (.slice pv A.length cv) := P7.cell rfl
        have IX5 := own_off2 GD.book HIXD.out G5.off
        have IX7 : Hid (w7.ownsRow (w.heap.size + 2) 3 1 (.slice (some ⟨gi, 0, none⟩) sI.length icap) sI.length (ixC sI)) := (World.ownsRow.alloc IX5 _).kept hgrow (own_twoM (IX5.alloc (.cells #[.int .i64 (i : Nat), .string m.key, .string m.dat, .slice ps ss.length cs] 80)) (ho5.alloc _) (by decide))
        refine hK _ _ ?_
        clear hK
        refine wpAny_ready (rs := [11]) (by kernel_rfl) (by simp) ?_
        refine AllReady.cons rfl (fun K hK => ?_) AllReady.nil
        go_simp
        refine hK _ _ ?_
        clear hK
        refine wpAny_ready (rs := [12]) (by kernel_rfl) (by simp) ?_
        refine AllReady.cons rfl (fun K hK => ?_) AllReady.nil
        go_simp
        refine hK _ _ ?_
        clear hK
        refine wpAny_done (by kernel_rfl) ?_ _
        go_wp2
        have e1 : (A ++ [((⟨(i : Nat), m.key, m.dat, ss⟩ : Pt), (.slice ps ss.length cs : Value))]).length = A.length + 1 := by simp
        refine ⟨⟨k + 1, A ++ [(⟨(i : Nat), m.key, m.dat, ss⟩, .slice ps ss.length cs)], T2, pv', cv', by omega, by norm_cast, by rw [e1, HAK.out], ?_, ?_, ?_, ?_, ?_, ?_, ?_, ?_⟩, by simp [intOf]; omega⟩
        · rw [e1]; exact P7.set 1 _
        · exact R7.setOther (by simp) _
        · rw [e1, ptC_snoc]; exact own_setM hown' (by omega)
        · intro q hq
          rcases List.mem_append.1 hq with hq | hq
          · exact own_setM (hos7 q hq) (by omega)
          · simp only [List.mem_singleton] at hq; subst hq; exact own_setM o7 (by omega)
        · rw [List.map_append]; exact PF.snoc (PF.ext HPF.out G5.ext) HI.out ⟨rfl, m, HM.out, rfl, rfl, t1⟩
        · exact (G7.set (by omega) (by omega) (by omega) (by omega) (by omega)).le (by rw [Nat.add_mul]; omega)
        · exact own_setM IX7.out (by omega)
        · simp [World.setCell]; omega
      · go_simp
        refine hK _ _ ?_
        clear hK
        refine wpAny_ready (rs := [1, 8]) (by kernel_rfl) (by simp) ?_
        refine AllReady.cons rfl (fun K hK => ?_) (AllReady.cons rfl (fun K hK => ?_) AllReady.nil)
        · go_simp
          refine hK _ _ ?_
          clear hK
          refine wpAny_ready (rs := [8]) (by kernel_rfl) (by simp) ?_
          refine AllReady.cons rfl (fun K hK => ?_) AllReady.nil
          go_simp
          refine Calls.mono HPL.out ?_
          rintro e w5 ⟨sv5, ss, T2, rfl, t1, o5, G5⟩
          refine hK _ _ ?_
          clear hK
          obtain ⟨ps, cs, rfl⟩ := own_sliceM o5
          have z5 := G5.off.size
          have hzd : w6.drew.heap.size = w6.heap.size := rfl
          have P5 := hPd.off2 G5.off (by omega) (by omega)
          have R5 := hRd.off2 G5.off (by omega) (by omega)
          have ho5 := own_off2 GD.book hod G5.off
          have hos5 : ∀ q ∈ A, w5.ownsRow (w.heap.size + 2) 9 1 q.2 q.1.sides.length (txC q.1.sides) := fun q hq => own_off2 GD.book (HOSD.out q hq) G5.off
          have c5 : w5.cell? ⟨w.heap.size + 1, 1, none⟩ = some (.slice pv A.length cv) := P5.cell rfl
          have c6 : (w5.alloc (.cells #[.int .i64 (i : Nat), .string m.key, .string m.dat, .slice ps ss.length cs] 80)).cell? ⟨w.heap.size + 1, 1, none⟩ = some (.slice pv A.length cv) := (P5.alloc _).cell rfl
          refine wpAny_ready (rs := [9]) (by kernel_rfl) (by simp) ?_
          refine AllReady.cons rfl (fun K hK => ?_) AllReady.nil
          go_simp
          refine hK _ _ ?_
          clear hK
          refine wpAny_ready (rs := [10]) (by kernel_rfl) (by simp) ?_
          refine AllReady.cons rfl (fun K hK => ?_) AllReady.nil
          refine step_ifM rfl ?_
          refine wp_append_own _ (.tmp 23) (.tmp 31) 34 (by kernel_rfl) (w.heap.size + 2) 80 iP (.agg #[.int .i64 0, .string ⟨#[]⟩, .string ⟨#[]⟩, .slice none 0 0]) 4 64 Tryz.underlying34 hi_ hi0 hi1 hi2 rfl (by decide) (.slice pv A.length cv) A.length (ptC A) (by kernel_rfl) (ho5.alloc _) ⟨w5.heap.size, 0, none⟩ 1 1 [.int .i64 (i : Nat), .string m.key, .string m.dat, .slice ps ss.length cs] (by kernel_rfl) rfl ?_ ?_ ?_ ?_ ?_ ?_
          · intro j u hj
            rw [Addr.add_mid, Nat.zero_add]
            exact (blk_new w5 w5.heap.size _ _ rfl).cell (by simpa using hj)
          · intro u hu
            simp at hu
            rcases hu with rfl | rfl | rfl | rfl <;> rfl
          · unfold maxLen; omega
          · omega
          · simp; omega
          intro v' w7 hown' hgrow _
          obtain ⟨pv', cv', rfl⟩ := own_sliceM hown'
          have zg := hgrow.size
          simp at zg
          have P7 : Blk w7 (w.heap.size + 1) #[.int .i64 l.length, .slice pv A.length cv] 36 := (hgrow.block (w.heap.size + 1) (by simp; omega) (fun e => by have := (ho5.lt _ e.symm).1; omega)).trans (P5.alloc _)
          have R7 : Blk w7 w.heap.size #[.int .i64 0, .slice none 0 0] 36 := (hgrow.block w.heap.size (by simp; omega) (fun e => by have := (ho5.lt _ e.symm).1; omega)).trans (R5.alloc _)
          have hos7 : ∀ q ∈ A, w7.ownsRow (w.heap.size + 2) 9 1 q.2 q.1.sides.length (txC q.1.sides) := fun q hq => (World.ownsRow.alloc (hos5 q hq) _).kept hgrow (own_twoM ((hos5 q hq).alloc (.cells #[.int .i64 (i : Nat), .string m.key, .string m.dat, .slice ps ss.length cs] 80)) (ho5.alloc _) (by decide))
          have o7 : w7.ownsRow (w.heap.size + 2) 9 1 (.slice ps ss.length cs) ss.length (txC ss) := (World.ownsRow.alloc (ownsRow_weakM o5 (by omega)) _).kept hgrow (own_twoM ((ownsRow_weakM o5 (base2 := w.heap.size + 2) (by omega)).alloc (.cells #[.int .i64 (i : Nat), .string m.key, .string m.dat, .slice ps ss.length cs] 80)) (ho5.alloc _) (by decide))
          have G6 := (GD.trans G5).below ((Below.refl w5.heap.size w5).alloc (Nat.le_refl _) (.cells #[.int .i64 (i : Nat), .string m.key, .string m.dat, .slice ps ss.length cs] 80))
          have G7 := G6.grown (ho5.alloc _) (by decide) (by decide) (by omega) hgrow
          have f7 : w7.frozen? ⟨w.heap.size + 1, 1, none⟩ = false := P7.frozen
          have c7 : w7.cell? ⟨w.heap.size + 1, 1, none⟩ = some (.slice pv A.length cv) := P7.cell rfl
          have IX5 := own_off2 GD.book HIXD.out G5.off
          have IX7 : Hid (w7.ownsRow (w.heap.size + 2) 3 1 (.slice (some ⟨gi, 0, none⟩) sI.length icap) sI.length (ixC sI)) := (World.ownsRow.alloc IX5 _).kept hgrow (own_twoM (IX5.alloc (.cells #[.int .i64 (i : Nat), .string m.key, .string m.dat, .slice ps ss.length cs] 80)) (ho5.alloc _) (by decide))
          refine hK _ _ ?_
          clear hK
          refine wpAny_ready (rs := [11]) (by kernel_rfl) (by simp) ?_
          refine AllReady.cons rfl (fun K hK => ?_) AllReady.nil
          go_simp
          refine hK _ _ ?_
          clear hK
          refine wpAny_ready (rs := [12]) (by kernel_rfl) (by simp) ?_
          refine AllReady.cons rfl (fun K hK => ?_) AllReady.nil
          go_simp
          refine hK _ _ ?_
          clear hK
          refine wpAny_done (by kernel_rfl) ?_ _
          go_wp2
          have e1 : (A ++ [((⟨(i : Nat), m.key, m.dat, ss⟩ : Pt), (.slice ps ss.length cs : Value))]).length = A.length + 1 := by simp
          refine ⟨⟨k + 1, A ++ [(⟨(i : Nat), m.key, m.dat, ss⟩, .slice ps ss.length cs)], T2, pv', cv', by omega, by norm_cast, by rw [e1, HAK.out], ?_, ?_, ?_, ?_, ?_, ?_, ?_, ?_⟩, by simp [intOf]; omega⟩
          · rw [e1]; exact P7.set 1 _
          · exact R7.setOther (by simp) _
          · rw [e1, ptC_snoc]; exact own_setM hown' (by omega)
          · intro q hq
            rcases List.mem_append.1 hq with hq | hq
            · exact own_setM (hos7 q hq) (by omega)
            · simp only [List.mem_singleton] at hq; subst hq; exact own_setM o7 (by omega)
          · rw [List.map_append]; exact PF.snoc (PF.ext HPF.out G5.ext) HI.out ⟨rfl, m, HM.out, rfl, rfl, t1⟩
          · exact (G7.set (by omega) (by omega) (by omega) (by omega) (by omega)).le (by rw [Nat.add_mul]; omega)
          · exact own_setM IX7.out (by omega)
          · simp [World.setCell]; omega
        · go_simp
          refine Calls.mono HPL.out ?_
          rintro e w5 ⟨sv5, ss, T2, rfl, t1, o5, G5⟩
          refine hK _ _ ?_
          clear hK
          obtain ⟨ps, cs, rfl⟩ := own_sliceM o5
          have z5 := G5.off.size
          have hzd : w6.drew.heap.size = w6.heap.size := rfl
          have P5 := hPd.off2 G5.off (by omega) (by omega)
          have R5 := hRd.off2 G5.off (by omega) (by omega)
          have ho5 := own_off2 GD.book hod G5.off
          have hos5 : ∀ q ∈ A, w5.ownsRow (w.heap.size + 2) 9 1 q.2 q.1.sides.length (txC q.1.sides) := fun q hq => own_off2 GD.book (HOSD.out q hq) G5.off
          have c5 : w5.cell? ⟨w.heap.size + 1, 1, none⟩ = some (.slice pv A.length cv) := P5.cell rfl
          have c6 : (w5.alloc (.cells #[.int .i64 (i : Nat), .string m.key, .string m.dat, .slice ps ss.length cs] 80)).cell? ⟨w.heap.size + 1, 1, none⟩ = some (.slice pv A.length cv) := (P5.alloc _).cell rfl
          refine wpAny_ready (rs := [1, 9]) (by kernel_rfl) (by simp) ?_
          refine AllReady.cons rfl (fun K hK => ?_) (AllReady.cons rfl (fun K hK => ?_) AllReady.nil)
          · go_simp
            refine hK _ _ ?_
            clear hK
            refine wpAny_ready (rs := [9]) (by kernel_rfl) (by simp) ?_
            refine AllReady.cons rfl (fun K hK => ?_) AllReady.nil
            go_simp
            refine hK _ _ ?_
            clear hK
            refine wpAny_ready (rs := [10]) (by kernel_rfl) (by simp) ?_
            refine AllReady.cons rfl (fun K hK => ?_) AllReady.nil
            refine step_ifM rfl ?_
            refine wp_append_own _ (.tmp 23) (.tmp 31) 34 (by kernel_rfl) (w.heap.size + 2) 80 iP (.agg #[.int .i64 0, .string ⟨#[]⟩, .string ⟨#[]⟩, .slice none 0 0]) 4 64 Tryz.underlying34 hi_ hi0 hi1 hi2 rfl (by decide) (.slice pv A.length cv) A.length (ptC A) (by kernel_rfl) (ho5.alloc _) ⟨w5.heap.size, 0, none⟩ 1 1 [.int .i64 (i : Nat), .string m.key, .string m.dat, .slice ps ss.length cs] (by kernel_rfl) rfl ?_ ?_ ?_ ?_ ?_ ?_
            · intro j u hj
              rw [Addr.add_mid, Nat.zero_add]
              exact (blk_new w5 w5.heap.size _ _ rfl).cell (by simpa using hj)
            · intro u hu
              simp at hu
              rcases hu with rfl | rfl | rfl | rfl <;> rfl
            · unfold maxLen; omega
            · omega
            · simp; omega
            intro v' w7 hown' hgrow _
            obtain ⟨pv', cv', rfl⟩ := own_sliceM hown'
            have zg := hgrow.size
            simp at zg
            have P7 : Blk w7 (w.heap.size + 1) #[.int .i64 l.length, .slice pv A.length cv] 36 := (hgrow.block (w.heap.size + 1) (by simp; omega) (fun e => by have := (ho5.lt _ e.symm).1; omega)).trans (P5.alloc _)
            have R7 : Blk w7 w.heap.size #[.int .i64 0, .slice none 0 0] 36 := (hgrow.block w.heap.size (by simp; omega) (fun e => by have := (ho5.lt _ e.symm).1; omega)).trans (R5.alloc _)
            have hos7 : ∀ q ∈ A, w7.ownsRow (w.heap.size + 2) 9 1 q.2 q.1.sides.length (txC q.1.sides) := fun q hq => (World.ownsRow.alloc (hos5 q hq) _).kept hgrow (own_twoM ((hos5 q hq).alloc (.cells #[.int .i64 (i : Nat), .string m.key, .string m.dat, .slice ps ss.length cs] 80)) (ho5.alloc _) (by decide))
            have o7 : w7.ownsRow (w.heap.size + 2) 9 1 (.slice ps ss.length cs) ss.length (txC ss) := (World.ownsRow.alloc (ownsRow_weakM o5 (by omega)) _).kept hgrow (own_twoM ((ownsRow_weakM o5 (base2 := w.heap.size + 2) (by omega)).alloc (.cells #[.int .i64 (i : Nat), .string m.key, .string m.dat, .slice ps ss.length cs] 80)) (ho5.alloc _) (by decide))
            have G6 := (GD.trans G5).below ((Below.refl w5.heap.size w5).alloc (Nat.le_refl _) (.cells #[.int .i64 (i : Nat), .string m.key, .string m.dat, .slice ps ss.length cs] 80))
            have G7 := G6.grown (ho5.alloc _) (by decide) (by decide) (by omega) hgrow
            have f7 : w7.frozen? ⟨w.heap.size + 1, 1, none⟩ = false := P7.frozen
            have c7 : w7.cell? ⟨w.heap.size + 1, 1, none⟩ = some (.slice pv A.length cv) := P7.cell rfl
            have IX5 := own_off2 GD.book HIXD.out G5.off
            have IX7 : Hid (w7.ownsRow (w.heap.size + 2) 3 1 (.slice (some ⟨gi, 0, none⟩) sI.length icap) sI.length (ixC sI)) := (World.ownsRow.alloc IX5 _).kept hgrow (own_twoM (IX5.alloc (.cells #[.int .i64 (i : Nat), .string m.key, .string m.dat, .slice ps ss.length cs] 80)) (ho5.alloc _) (by decide))
            refine hK _ _ ?_
            clear hK
            refine wpAny_ready (rs := [11]) (by kernel_rfl) (by simp) ?_
            refine AllReady.cons rfl (fun K hK => ?_) AllReady.nil
            go_simp
            refine hK _ _ ?_
            clear hK
            refine wpAny_ready (rs := [12]) (by kernel_rfl) (by simp) ?_
            refine AllReady.cons rfl (fun K hK => ?_) AllReady.nil
            go_simp
            refine hK _ _ ?_
            clear hK
            refine wpAny_done (by kernel_rfl) ?_ _
            go_wp2
            have e1 : (A ++ [((⟨(i : Nat), m.key, m.dat, ss⟩ : Pt), (.slice ps ss.length cs : Value))]).length = A.length + 1 := by simp
            refine ⟨⟨k + 1, A ++ [(⟨(i : Nat), m.key, m.dat, ss⟩, .slice ps ss.length cs)], T2, pv', cv', by omega, by norm_cast, by rw [e1, HAK.out], ?_, ?_, ?_, ?_, ?_, ?_, ?_, ?_⟩, by simp [intOf]; omega⟩
            · rw [e1]; exact P7.set 1 _
            · exact R7.setOther (by simp) _
            · rw [e1, ptC_snoc]; exact own_setM hown' (by omega)
            · intro q hq
              rcases List.mem_append.1 hq with hq | hq
              · exact own_setM (hos7 q hq) (by omega)
              · simp only [List.mem_singleton] at hq; subst hq; exact own_setM o7 (by omega)
            · rw [List.map_append]; exact PF.snoc (PF.ext HPF.out G5.ext) HI.out ⟨rfl, m, HM.out, rfl, rfl, t1⟩
            · exact (G7.set (by omega) (by omega) (by omega) (by omega) (by omega)).le (by rw [Nat.add_mul]; omega)
            · exact own_setM IX7.out (by omega)
            · simp [World.setCell]; omega
          · go_simp
            refine hK _ _ ?_
            clear hK
            refine wpAny_ready (rs := [1]) (by kernel_rfl) (by simp) ?_
            refine AllReady.cons rfl (fun K hK => ?_) AllReady.nil
            go_simp
            refine hK _ _ ?_
            clear hK
            refine wpAny_ready (rs := [10]) (by kernel_rfl) (by simp) ?_
            refine AllReady.cons rfl (fun K hK => ?_) AllReady.nil
            refine step_ifM rfl ?_
            refine wp_append_own _ (.tmp 23) (.tmp 31) 34 (by kernel_rfl) (w.heap.size + 2) 80 iP (.agg #[.int .i64 0, .string ⟨#[]⟩, .string ⟨#[]⟩, .slice none 0 0]) 4 64 Tryz.underlying34 hi_ hi0 hi1 hi2 rfl (by decide) (.slice pv A.length cv) A.length (ptC A) (by kernel_rfl) (ho5.alloc _) ⟨w5.heap.size, 0, none⟩ 1 1 [.int .i64 (i : Nat), .string m.key, .string m.dat, .slice ps ss.length cs] (by kernel_rfl) rfl ?_ ?_ ?_ ?_ ?_ ?_
            · intro j u hj
              rw [Addr.add_mid, Nat.zero_add]
              exact (blk_new w5 w5.heap.size _ _ rfl).cell (by simpa using hj)
            · intro u hu
              simp at hu
              rcases hu with rfl | rfl | rfl | rfl <;> rfl
            · unfold maxLen; omega
            · omega
            · simp; omega
            intro v' w7 hown' hgrow _
            obtain ⟨pv', cv', rfl⟩ := own_sliceM hown'
            have zg := hgrow.size
            simp at zg
            have P7 : Blk w7 (w.heap.size + 1) #[.int .i64 l.length, .slice pv A.length cv] 36 := (hgrow.block (w.heap.size + 1) (by simp; omega) (fun e => by have := (ho5.lt _ e.symm).1; omega)).trans (P5.alloc _)
            have R7 : Blk w7 w.heap.size #[.int .i64 0, .slice none 0 0] 36 := (hgrow.block w.heap.size (by simp; omega) (fun e => by have := (ho5.lt _ e.symm).1; omega)).trans (R5.alloc _)
            have hos7 : ∀ q ∈ A, w7.ownsRow (w.heap.size + 2) 9 1 q.2 q.1.sides.length (txC q.1.sides) := fun q hq => (World.ownsRow.alloc (hos5 q hq) _).kept hgrow (own_twoM ((hos5 q hq).alloc (.cells #[.int .i64 (i : Nat), .string m.key, .string m.dat, .slice ps ss.length cs] 80)) (ho5.alloc _) (by decide))
            have o7 : w7.ownsRow (w.heap.size + 2) 9 1 (.slice ps ss.length cs) ss.length (txC ss) := (World.ownsRow.alloc (ownsRow_weakM o5 (by omega)) _).kept hgrow (own_twoM ((ownsRow_weakM o5 (base2 := w.heap.size + 2) (by omega)).alloc (.cells #[.int .i64 (i : Nat), .string m.key, .string m.dat, .slice ps ss.length cs] 80)) (ho5.alloc _) (by decide))
            have G6 := (GD.trans G5).below ((Below.refl w5.heap.size w5).alloc (Nat.le_refl _) (.cells #[.int .i64 (i : Nat), .string m.key, .string m.dat, .slice ps ss.length cs] 80))
            have G7 := G6.grown (ho5.alloc _) (by decide) (by decide) (by omega) hgrow
            have f7 : w7.frozen? ⟨w.heap.size + 1, 1, none⟩ = false := P7.frozen
            have c7 : w7.cell? ⟨w.heap.size + 1, 1, none⟩ = some (.slice pv A.length cv) := P7.cell rfl
            have IX5 := own_off2 GD.book HIXD.out G5.off
            have IX7 : Hid (w7.ownsRow (w.heap.size + 2) 3 1 (.slice (some ⟨gi, 0, none⟩) sI.length icap) sI.length (ixC sI)) := (World.ownsRow.alloc IX5 _).kept hgrow (own_twoM (IX5.alloc (.cells #[.int .i64 (i : Nat), .string m.key, .string m.dat, .slice ps ss.length cs] 80)) (ho5.alloc _) (by decide))
            refine hK _ _ ?_
            clear hK
            refine wpAny_ready (rs := [11]) (by kernel_rfl) (by simp) ?_
            refine AllReady.cons rfl (fun K hK => ?_) AllReady.nil
            go_simp
            refine hK _ _ ?_
            clear hK
            refine wpAny_ready (rs := [12]) (by kernel_rfl) (by simp) ?_
            refine AllReady.cons rfl (fun K hK => ?_) AllReady.nil
            go_simp
            refine hK _ _ ?_
            clear hK
            refine wpAny_done (by kernel_rfl) ?_ _
            go_wp2
            have e1 : (A ++ [((⟨(i : Nat), m.key, m.dat, ss⟩ : Pt), (.slice ps ss.length cs : Value))]).length = A.length + 1 := by simp
            refine ⟨⟨k + 1, A ++ [(⟨(i : Nat), m.key, m.dat, ss⟩, .slice ps ss.length cs)], T2, pv', cv', by omega, by norm_cast, by rw [e1, HAK.out], ?_, ?_, ?_, ?_, ?_, ?_, ?_, ?_⟩, by simp [intOf]; omega⟩
            · rw [e1]; exact P7.set 1 _
            · exact R7.setOther (by simp) _
            · rw [e1, ptC_snoc]; exact own_setM hown' (by omega)
            · intro q hq
              rcases List.mem_append.1 hq with hq | hq
              · exact own_setM (hos7 q hq) (by omega)
              · simp only [List.mem_singleton] at hq; subst hq; exact own_setM o7 (by omega)
            · rw [List.map_append]; exact PF.snoc (PF.ext HPF.out G5.ext) HI.out ⟨rfl, m, HM.out, rfl, rfl, t1⟩
            · exact (G7.set (by omega) (by omega) (by omega) (by omega) (by omega)).le (by rw [Nat.add_mul]; omega)
            · exact own_setM IX7.out (by omega)
            · simp [World.setCell]; omega
    · have hkl : ¬ (k : Int) < (sI.length : Int) := by omega
      have hkb : k * (2 * l.length) ≤ 2 * (2 * l.length) := Nat.mul_le_mul_right _ (by omega)
      have HKB : Hid _ := hkb
      have HAK : Hid _ := hAk
      clear hkb hAk
      obtain ⟨W8, hW8, R8, hoth8, Z8, ho8⟩ := setRow_named hR #[.int .i64 l.length, .slice pv A.length cv]
      have c70 : w6.cell? ⟨w.heap.size + 1, 0, none⟩ = some (.int .i64 l.length) := hP.cell rfl
      have c71 : w6.cell? ⟨w.heap.size + 1, 1, none⟩ = some (.slice pv A.length cv) := hP.cell rfl
      go_wp2_with ((with_reducible refine st_row (ty := 36) hR (infoPf2 _ _) (pfSame _ _ _ _) (pfOne _ _ _ _) hW8 ?_ ?_ ?_); rfl; rfl)
      refine bodyPost_ret (v := .agg #[.int .i64 l.length, .slice pv A.length cv]) (proof_results R8 rfl) rfl ?_
      refine ⟨A, T1, pv, cv, rfl, ?_, ?_, ?_, ?_⟩
      · have := HPF.out
        rw [List.take_of_length_le (by omega)] at this
        rw [HSI.out]; exact this
      · rw [← hW8]; exact ownsRow_weakM (own_rowM ho (by omega)) (by omega)
      · intro q u hq; rw [← hW8]; exact ownsRow_weakM (own_rowM (HOS.out (q, u) hq) (by omega)) (by omega)
      · rw [← hW8]; exact (G.row (by omega) (by omega) (by omega) (by omega) (by omega)).le (by have := HKB.out; omega)

end Go.Proofs.YtpcafjbebhcilaaGreat
