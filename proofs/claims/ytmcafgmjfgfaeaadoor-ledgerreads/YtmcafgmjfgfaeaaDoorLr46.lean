/- ledger.Of on any records. -/
import Derived.Test.YtmcafgmjfgfaeaaDoorLr45
import Derived.Test.YtmcafgmjfgfaeaaDoorLr30
import Derived.Deep.DeepCutAuto
import Derived.Deep.CutBlock
namespace Go.Proofs.YtmcafgmjfgfaeaaDoor
open Go.RowKit
set_option linter.unusedSimpArgs false
set_option linter.unusedVariables false

def allR (g : Nat) : Nat → List Rc → Bool
  | _, [] => true
  | i, r :: L => okR g i r && allR g (i + 1) L
theorem allR_iff (g : Nat) : ∀ (L : List Rc) (i : Nat), allR g i L = true ↔ ∀ j (h : j < L.length), okR g (i + j) L[j] = true
  | [], i => ⟨fun _ j h => absurd h (Nat.not_lt_zero _), fun _ => rfl⟩
  | r :: L, i => by
    rw [allR, Bool.and_eq_true, allR_iff g L (i + 1)]
    constructor
    · rintro ⟨h1, h2⟩ j hj
      cases j with
      | zero => exact h1
      | succ j =>
        have := h2 j (by simpa using hj)
        rw [show i + 1 + j = i + (j + 1) by omega] at this
        exact this
    · intro h
      refine ⟨h 0 (by simp), fun j hj => ?_⟩
      have := h (j + 1) (by simpa using hj)
      rw [show i + (j + 1) = i + 1 + j by omega] at this
      exact this
theorem allR_all {g : Nat} {L : List Rc} (h : allR g 0 L = true) : AllR g L L.length := fun i hi _ => by
  have := (allR_iff g L 0).1 h i hi
  rw [Nat.zero_add] at this
  exact this
theorem allR_no {g : Nat} {L : List Rc} {i : Nat} (hi : i < L.length) (h : okR g i L[i] = false) : allR g 0 L = false := by
  cases e : allR g 0 L
  · rfl
  · have := (allR_iff g L 0).1 e i hi
    rw [Nat.zero_add, h] at this
    cases this
/-- Why records are no ledger's; 0: they are. -/
def ofE (c g : Int) (L : List Rc) : Int := if ¬ (1 ≤ c ∧ c ≤ 16 ∧ 1 ≤ g ∧ g ≤ 4) then 1 else if ¬ ((L.length : Int) = c) then 92 else if allR g.toNat 0 L = false then 92 else if overB (ofL g.toNat L) = true then 92 else 0
theorem byt_ne {a b : ByteArray} (h : ¬ a = b) : (a.toList != b.toList) = true := by
  simp only [bne_iff_ne, ne_eq, ByteArray.toList_eq]
  exact fun e => h (ByteArray.ext (Array.toList_inj.1 e))
set_option maxHeartbeats 8000000 in
set_option maxRecDepth 100000 in
theorem of_any (c gi : Int) (L : List Rc) (v : Value) (w : World) (hv : Rcs w v L) (hz : L.length ≤ 9223372036854775807) :
    Calls Tryd.prog 12 #[.int .i64 c, .int .i64 gi, v] w fun e w' => Below w.heap.size w w' ∧ ((¬ ofE c gi L = 0 ∧ e = .returned (.tuple #[.pointer none, .int .i64 (ofE c gi L)])) ∨ (ofE c gi L = 0 ∧ ∃ p b, e = .returned (.tuple #[.pointer (some ⟨p, 0, none⟩), .int .i64 0]) ∧ Lg w' p b gi.toNat (ofL gi.toNat L) ∧ w.heap.size ≤ p ∧ w.heap.size ≤ b)) := by
  by_cases hnum : 1 ≤ c ∧ c ≤ 16 ∧ 1 ≤ gi ∧ gi ≤ 4
  case neg =>
    obtain ⟨pv, cap, rfl⟩ := hv.len
    have he : ofE c gi L = 1 := by unfold ofE; rw [if_pos hnum]
    have HE : Hid _ := he
    have HNB : Hid _ := new_bad c gi w hnum
    clear he hnum hv
    rw [HE.out]
    go_enter Tryd.func12, Tryd.ntmps12
    go_wp2_with fail
    refine Calls.mono HNB.out ?_
    rintro e w1 ⟨rfl, rfl⟩
    go_wp2
    go_ret2
    exact ⟨Below.refl _ _, Or.inl ⟨by decide, rfl⟩⟩
  obtain ⟨n1, n2, n3, n4⟩ := hnum
  obtain ⟨cn, rfl⟩ := Int.eq_ofNat_of_zero_le (show 0 ≤ c by omega)
  obtain ⟨g, rfl⟩ := Int.eq_ofNat_of_zero_le (show 0 ≤ gi by omega)
  rw [Int.toNat_natCast]
  have HNW : Hid _ := new_ok (cn : Int) (g : Int) w (by omega) (by omega) (by omega) (by omega)
  by_cases hlc : L.length = cn
  case neg =>
    obtain ⟨pv, cap, rfl⟩ := hv.len
    have he : ofE cn g L = 92 := by unfold ofE; rw [if_neg (by omega), if_pos (by omega)]
    have HE : Hid _ := he
    clear he hv
    rw [HE.out]
    have hdn : ((L.length : Int) != (cn : Int)) = true := by simp; omega
    go_enter Tryd.func12, Tryd.ntmps12
    go_wp2_with fail
    refine Calls.mono HNW.out ?_
    rintro e w1 ⟨p, b, rfl, L1, b1, hp, hb⟩
    have HB1 : Hid _ := b1
    clear L1 b1 hp hb HNW
    go_wp2
    go_ret2
    exact ⟨HB1.out, Or.inl ⟨by decide, rfl⟩⟩
  obtain ⟨l, hl⟩ : ∃ l, ofL g L = l := ⟨_, rfl⟩
  have hll : L.length = l.length := by rw [← hl, ofL_len]
  obtain rfl : cn = l.length := by omega
  have hpos : 0 < l.length := by omega
  have hlen : l.length ≤ 16 := by omega
  have hg1 : 1 ≤ g := by omega
  have hg4 : g ≤ 4 := by omega
  have HER : Hid (ofE l.length g L = if allR g 0 L = false then 92 else if overB l = true then 92 else 0) := by
    show _ = _
    unfold ofE
    rw [if_neg (by omega), if_neg (by omega), Int.toNat_natCast, hl]
  have HLL : Hid (ofL g L = l ∧ L.length = l.length) := ⟨hl, hll⟩
  rw [hl]
  obtain ⟨gr, off, cap, rfl, HRC⟩ : ∃ gr off cap, v = .slice (some ⟨gr, off, none⟩) l.length cap ∧ Hid (∀ i, i < l.length → ∃ ky vl, w.cell? ⟨gr, off + i * 2, none⟩ = some (.string ky) ∧ w.cell? ⟨gr, off + i * 2 + 1, none⟩ = some (.string vl) ∧ vl.size ≤ maxLen ∧ (ktR vl g).1 = kAt l i ∧ ∃ h : i < L.length, okR g i L[i] = ((ktR vl g).2 && soundB (kAt l i) && decide (ky = keyB i))) := by
    rcases hv with ⟨_, h0⟩ | ⟨gr, off, cap, e, hc⟩
    · rw [h0] at hll
      simp at hll
      omega
    · subst e
      refine ⟨gr, off, cap, by rw [hll], fun i hi => ?_⟩
      have hi' : i < L.length := by omega
      obtain ⟨c0, c1, _, c3⟩ := hc i hi'
      have e1 : kAt l i = (ktR L[i].dat g).1 := by rw [← hl]; exact ofL_at g hi'
      refine ⟨_, _, c0, c1, c3, e1.symm, hi', ?_⟩
      unfold okR okV
      rw [e1]
  clear hv hl hll n1 n2 n3 n4 hz
  go_enter Tryd.func12, Tryd.ntmps12
  go_wp2_with fail
  refine Calls.mono HNW.out ?_
  rintro e w1 ⟨p, b, rfl, L1, b1, hp, hb⟩
  rw [Int.toNat_natCast, Int.toNat_natCast, ← ofTo_zero] at L1
  have hul := ofTo_len l (Nat.zero_le l.length)
  have P1 := L1.blk
  rw [hul] at P1
  have R1 := L1.row
  have hne := L1.ne
  have HP1 : Hid _ := P1
  have HR1 : Hid _ := R1
  have hcap : True := trivial
  have hdn : ((l.length : Int) != (l.length : Int)) = false := by simp
  have HB1 : Hid _ := b1
  clear L1 P1 R1 b1 HNW
  go_wp2_with fail
  have hsz := HB1.out.size
  go_loopw [29] (fun i wr => ∃ k : Nat, k ≤ l.length ∧ i = .int .i64 k ∧ Hid (∀ j (h : j < L.length), j < k → okR g j L[j] = true) ∧ Hid (Blk wr p #[.slice (some ⟨b, 0, none⟩) l.length l.length, .int .i64 g] 62 ∧ Blk wr b (kC (ofTo l k)) 67 ∧ Below w.heap.size w wr)) (fun i _ => l.length - (intOf i).toNat)
  case atStart => exact ⟨0, Nat.zero_le _, rfl, fun j h h2 => by omega, HP1.out, HR1.out, HB1.out⟩
  case round =>
    clear HP1 HR1
    obtain ⟨k, hk, rfl, HAL, HR⟩ := hrel
    by_cases hlt : k < l.length
    · have hd : decide ((k : Int) < (l.length : Int)) = true := by simp only [decide_eq_true_eq]; omega
      have hd' : (k : Int) < (l.length : Int) := by omega
      obtain ⟨wa, rfl⟩ : ∃ wa, wa = wr := ⟨wr, rfl⟩
      have hz := HR.out.2.2.size
      obtain ⟨kyb, val, q0, q1, hvs, hkt1, hkL, hokr⟩ := HRC.out k hlt
      have r0 : wa.cell? ⟨gr, off + k * 2, none⟩ = some (.string kyb) := (HR.out.2.2.cell (World.block_lt_of_cell? w _ q0)).trans q0
      have r1 : wa.cell? ⟨gr, off + k * 2 + 1, none⟩ = some (.string val) := (HR.out.2.2.cell (World.block_lt_of_cell? w _ q1)).trans q1
      have HKO : Hid (∀ wx, Calls Tryd.prog 42 #[.string val, .int .i64 g] wx fun e w' => e = .returned (.tuple #[.agg (kAt l k).cells.toArray, .bool (ktR val g).2]) ∧ Below wx.heap.size wx w') := fun wx => by
        have := keptOf_calls val g hg4 wx hvs
        rw [hkt1] at this
        exact this
      have HSO : Hid _ := fun wx => sound_calls (kAt l k) wx
      have HKY2 : Hid (∀ wx, Calls Tryd.prog 37 #[.int .i64 k] wx fun e w' => e = .returned (.string (keyB k)) ∧ Below wx.heap.size wx w') := fun wx => (keyOf_calls k wx (by omega)).mono (fun e w2 h => ⟨h.1, by rw [h.2]; exact Below.refl _ _⟩)
      have HUS : Hid _ := ofTo_set hlt
      have HKA : Hid ((kAt l k).cells.toArray = #[.int .i64 ((kAt l k).n 0), .int .i64 ((kAt l k).n 1), .int .i64 ((kAt l k).n 2), .int .i64 ((kAt l k).n 3), .int .i64 ((kAt l k).n 4), .int .i64 ((kAt l k).n 5), .int .i64 ((kAt l k).n 6), .int .i64 ((kAt l k).n 7), .int .i64 ((kAt l k).n 8), .int .i64 ((kAt l k).n 9), .int .i64 ((kAt l k).n 10), .string (kAt l k).reply]) := rfl
      have HUL := ofTo_len l hk
      have HKC : Hid _ := kC_all (l := ofTo l k) (i := k) (by rw [HUL]; exact hlt) (kAt l k)
      have hsz2 : (kC (ofTo l k)).size = l.length * 12 := by rw [kC_size, HUL]
      have HOK : Hid (∃ h : k < L.length, okR g k L[k] = ((ktR val g).2 && soundB (kAt l k) && decide (kyb = keyB k))) := ⟨hkL, hokr⟩
      clear hokr hkt1
      generalize kAt l k = kk at *
      generalize keyB k = kb2 at *
      generalize (ktR val g).2 = o1 at *
      generalize soundB kk = o2 at *
      rw [HKA.out] at HKO
      obtain ⟨rb, hrb⟩ : ∃ rb, wa.heap.size = rb := ⟨_, rfl⟩
      obtain ⟨W2, hW2, X2, B2⟩ : ∃ W2, wa.alloc (.cells #[.string kyb, .string val] 71) = W2 ∧ Blk W2 rb #[.string kyb, .string val] 71 ∧ Below wa.heap.size wa W2 := ⟨_, rfl, blk_new _ _ _ _ hrb.symm, by go_grown⟩
      have t1 : W2.cell? ⟨rb, 1, none⟩ = some (.string val) := X2.cell rfl
      have HX2 : Hid _ := X2
      have HBW2 : Hid _ := B2
      clear hvs q0 q1 X2 B2
      go_wp2_with fail
      refine Calls.mono (HKO.out _) ?_
      rintro e w3 ⟨rfl, b3⟩
      obtain ⟨kb, hkb⟩ : ∃ kb, w3.heap.size = kb := ⟨_, rfl⟩
      obtain ⟨W4, hW4, X4, B4⟩ : ∃ W4, w3.alloc (.cells #[.int .i64 (kk.n 0), .int .i64 (kk.n 1), .int .i64 (kk.n 2), .int .i64 (kk.n 3), .int .i64 (kk.n 4), .int .i64 (kk.n 5), .int .i64 (kk.n 6), .int .i64 (kk.n 7), .int .i64 (kk.n 8), .int .i64 (kk.n 9), .int .i64 (kk.n 10), .string kk.reply] 67) = W4 ∧ Blk W4 kb #[.int .i64 (kk.n 0), .int .i64 (kk.n 1), .int .i64 (kk.n 2), .int .i64 (kk.n 3), .int .i64 (kk.n 4), .int .i64 (kk.n 5), .int .i64 (kk.n 6), .int .i64 (kk.n 7), .int .i64 (kk.n 8), .int .i64 (kk.n 9), .int .i64 (kk.n 10), .string kk.reply] 67 ∧ Below w3.heap.size w3 W4 := ⟨_, rfl, blk_new _ _ _ _ hkb.symm, by go_grown⟩
      have XR4 : Blk W4 rb #[.string kyb, .string val] 71 := (Blk.below HX2.out b3).below B4
      have HKB : Hid (wa.heap.size ≤ kb) := by
        show _ ≤ _
        have h1 := Below.size HBW2.out
        have h2 := b3.size
        omega
      have HBa : Hid (Below wa.heap.size wa W4) := Below.trans HBW2.out ((b3.trans (B4.mono b3.size)).mono (Below.size HBW2.out))
      have HX4 : Hid _ := X4
      have HR4 : Hid _ := XR4
      clear b3 B4 X4 XR4 HX2 HBW2 t1 r0 r1
      go_upto_region 10 with fail
      clear hW2 hW4 hrb hkb
      obtain ⟨ob, hob⟩ : ∃ ob, (!(o1 && o2 && decide (kyb = kb2))) = ob := ⟨_, rfl⟩
      go_cut [54] (fun bv wx => bv = .bool ob ∧ Below W4.heap.size W4 wx)
      case first =>
        rename_i J9 K9 aJ aK
        refine wp_region_held_drew (S := (fun wx => Below W4.heap.size W4 wx)) (by kernel_rfl) ((Below.refl _ _).drew) (fun hS => ?_)
        cases o1
        · obtain rfl : ob = true := by rw [← hob]; rfl
          refine wpAnyH_take (i := 0) (v := (.bool false)) rfl (by kernel_rfl) (by kernel_rfl) (by kernel_rfl) (fun _ _ _ h => h) (Or.inl ⟨by kernel_rfl, fun wx hS => by go_simp⟩) hS ?_
          refine wpAnyH_take (i := 1) (v := (.bool true)) rfl (by kernel_rfl) (by kernel_rfl) (by kernel_rfl) (fun _ _ _ h => h) (Or.inl ⟨by kernel_rfl, fun wx hS => by go_simp⟩) hS ?_
          refine wpAnyH_take (i := 2) (v := (.bool true)) rfl (by kernel_rfl) (by kernel_rfl) (by kernel_rfl) (fun _ _ _ h => h) (Or.inl ⟨by kernel_rfl, fun wx hS => by go_simp⟩) hS ?_
          refine wpAnyH_take (i := 3) (v := undef) rfl (by kernel_rfl) (by kernel_rfl) (by kernel_rfl) (fun _ _ _ h => h) (Or.inr ⟨by kernel_rfl, rfl⟩) hS ?_
          refine wpAnyH_take (i := 4) (v := undef) rfl (by kernel_rfl) (by kernel_rfl) (by kernel_rfl) (fun _ _ _ h => h) (Or.inr ⟨by kernel_rfl, rfl⟩) hS ?_
          refine wpAnyH_take (i := 5) (v := undef) rfl (by kernel_rfl) (by kernel_rfl) (by kernel_rfl) (fun _ _ _ h => h) (Or.inr ⟨by kernel_rfl, rfl⟩) hS ?_
          refine wpAnyH_take (i := 6) (v := (.bool true)) rfl (by kernel_rfl) (by kernel_rfl) (by kernel_rfl) (fun _ _ _ h => h) (Or.inl ⟨by kernel_rfl, fun wx hS => by go_simp⟩) hS ?_
          refine wpAnyH_take (i := 7) (v := (.bool true)) rfl (by kernel_rfl) (by kernel_rfl) (by kernel_rfl) (fun _ _ _ h => h) (Or.inl ⟨by kernel_rfl, fun wx hS => by go_simp⟩) hS ?_
          refine wpAnyH_take (i := 8) (v := undef) rfl (by kernel_rfl) (by kernel_rfl) (by kernel_rfl) (fun _ _ _ h => h) (Or.inr ⟨by kernel_rfl, rfl⟩) hS ?_
          refine wpAnyH_take (i := 9) (v := undef) rfl (by kernel_rfl) (by kernel_rfl) (by kernel_rfl) (fun _ _ _ h => h) (Or.inr ⟨by kernel_rfl, rfl⟩) hS ?_
          refine wpAnyH_take (i := 10) (v := undef) rfl (by kernel_rfl) (by kernel_rfl) (by kernel_rfl) (fun _ _ _ h => h) (Or.inr ⟨by kernel_rfl, rfl⟩) hS ?_
          refine wpAnyH_take (i := 11) (v := undef) rfl (by kernel_rfl) (by kernel_rfl) (by kernel_rfl) (fun _ _ _ h => h) (Or.inr ⟨by kernel_rfl, rfl⟩) hS ?_
          refine wpAnyH_take (i := 12) (v := undef) rfl (by kernel_rfl) (by kernel_rfl) (by kernel_rfl) (fun _ _ _ h => h) (Or.inr ⟨by kernel_rfl, rfl⟩) hS ?_
          refine wpAnyH_take (i := 13) (v := (.bool true)) rfl (by kernel_rfl) (by kernel_rfl) (by kernel_rfl) (fun _ _ _ h => h) (Or.inl ⟨by kernel_rfl, fun wx hS => by go_simp⟩) hS ?_
          refine wpAnyH_done (by kernel_rfl) ?_ _
          go_simp
          refine aK _ _ ?_
          go_meet
          exact ⟨rfl, hS⟩
        · cases o2
          · obtain rfl : ob = true := by rw [← hob]; rfl
            refine wpAnyH_take (i := 0) (v := (.bool true)) rfl (by kernel_rfl) (by kernel_rfl) (by kernel_rfl) (fun _ _ _ h => h) (Or.inl ⟨by kernel_rfl, fun wx hS => by go_simp⟩) hS ?_
            refine wpAnyH_take (i := 1) (v := (.bool false)) rfl (by kernel_rfl) (by kernel_rfl) (by kernel_rfl) (fun _ _ _ h => h) (Or.inl ⟨by kernel_rfl, fun wx hS => by go_simp⟩) hS ?_
            refine wpAnyH_take (i := 2) (v := (.bool false)) rfl (by kernel_rfl) (by kernel_rfl) (by kernel_rfl) (fun _ _ _ h => h) (Or.inl ⟨by kernel_rfl, fun wx hS => by go_simp⟩) hS ?_
            refine wpAnyH_take (i := 3) (v := (.agg #[.int .i64 (kk.n 0), .int .i64 (kk.n 1), .int .i64 (kk.n 2), .int .i64 (kk.n 3), .int .i64 (kk.n 4), .int .i64 (kk.n 5), .int .i64 (kk.n 6), .int .i64 (kk.n 7), .int .i64 (kk.n 8), .int .i64 (kk.n 9), .int .i64 (kk.n 10), .string kk.reply])) rfl (by kernel_rfl) (by kernel_rfl) (by kernel_rfl) (fun _ _ _ h => h) (Or.inl ⟨by kernel_rfl, fun wx hS => by have t0 := (Blk.below HX4.out hS).cell (o := 0) rfl; have t1 := (Blk.below HX4.out hS).cell (o := 1) rfl; have t2 := (Blk.below HX4.out hS).cell (o := 2) rfl; have t3 := (Blk.below HX4.out hS).cell (o := 3) rfl; have t4 := (Blk.below HX4.out hS).cell (o := 4) rfl; have t5 := (Blk.below HX4.out hS).cell (o := 5) rfl; have t6 := (Blk.below HX4.out hS).cell (o := 6) rfl; have t7 := (Blk.below HX4.out hS).cell (o := 7) rfl; have t8 := (Blk.below HX4.out hS).cell (o := 8) rfl; have t9 := (Blk.below HX4.out hS).cell (o := 9) rfl; have t10 := (Blk.below HX4.out hS).cell (o := 10) rfl; have t11 := (Blk.below HX4.out hS).cell (o := 11) rfl; go_simp⟩) hS ?_
            refine wpAnyH_ready (rs := [4]) (by kernel_rfl) (by simp) ?_
            refine AllReadyH.cons rfl (fun K hK => ?_) AllReadyH.nil
            rw [if_pos (by kernel_rfl)]
            go_simp
            refine Calls.mono (HSO.out _) ?_
            rintro e4 q4 ⟨rfl, bq⟩
            refine hK.out _ _ (hS.trans (bq.mono hS.size)) (fun hS => ?_)
            clear hK
            refine wpAnyH_take (i := 5) (v := (.bool true)) rfl (by kernel_rfl) (by kernel_rfl) (by kernel_rfl) (fun _ _ _ h => h) (Or.inl ⟨by kernel_rfl, fun wx hS => by go_simp⟩) hS ?_
            refine wpAnyH_take (i := 6) (v := (.bool true)) rfl (by kernel_rfl) (by kernel_rfl) (by kernel_rfl) (fun _ _ _ h => h) (Or.inl ⟨by kernel_rfl, fun wx hS => by go_simp⟩) hS ?_
            refine wpAnyH_take (i := 7) (v := (.bool true)) rfl (by kernel_rfl) (by kernel_rfl) (by kernel_rfl) (fun _ _ _ h => h) (Or.inl ⟨by kernel_rfl, fun wx hS => by go_simp⟩) hS ?_
            refine wpAnyH_take (i := 8) (v := undef) rfl (by kernel_rfl) (by kernel_rfl) (by kernel_rfl) (fun _ _ _ h => h) (Or.inr ⟨by kernel_rfl, rfl⟩) hS ?_
            refine wpAnyH_take (i := 9) (v := undef) rfl (by kernel_rfl) (by kernel_rfl) (by kernel_rfl) (fun _ _ _ h => h) (Or.inr ⟨by kernel_rfl, rfl⟩) hS ?_
            refine wpAnyH_take (i := 10) (v := undef) rfl (by kernel_rfl) (by kernel_rfl) (by kernel_rfl) (fun _ _ _ h => h) (Or.inr ⟨by kernel_rfl, rfl⟩) hS ?_
            refine wpAnyH_take (i := 11) (v := undef) rfl (by kernel_rfl) (by kernel_rfl) (by kernel_rfl) (fun _ _ _ h => h) (Or.inr ⟨by kernel_rfl, rfl⟩) hS ?_
            refine wpAnyH_take (i := 12) (v := undef) rfl (by kernel_rfl) (by kernel_rfl) (by kernel_rfl) (fun _ _ _ h => h) (Or.inr ⟨by kernel_rfl, rfl⟩) hS ?_
            refine wpAnyH_take (i := 13) (v := (.bool true)) rfl (by kernel_rfl) (by kernel_rfl) (by kernel_rfl) (fun _ _ _ h => h) (Or.inl ⟨by kernel_rfl, fun wx hS => by go_simp⟩) hS ?_
            refine wpAnyH_done (by kernel_rfl) ?_ _
            go_simp
            refine aK _ _ ?_
            go_meet
            exact ⟨rfl, hS⟩
          · by_cases hky : kyb = kb2
            · obtain rfl : ob = false := by rw [← hob, hky]; simp
              have hkk : (kyb.toList != kb2.toList) = false := by rw [hky]; simp
              have hke : kyb.toList = kb2.toList := by rw [hky]
              clear hky
              refine wpAnyH_take (i := 0) (v := (.bool true)) rfl (by kernel_rfl) (by kernel_rfl) (by kernel_rfl) (fun _ _ _ h => h) (Or.inl ⟨by kernel_rfl, fun wx hS => by go_simp⟩) hS ?_
              refine wpAnyH_take (i := 1) (v := (.bool false)) rfl (by kernel_rfl) (by kernel_rfl) (by kernel_rfl) (fun _ _ _ h => h) (Or.inl ⟨by kernel_rfl, fun wx hS => by go_simp⟩) hS ?_
              refine wpAnyH_take (i := 2) (v := (.bool false)) rfl (by kernel_rfl) (by kernel_rfl) (by kernel_rfl) (fun _ _ _ h => h) (Or.inl ⟨by kernel_rfl, fun wx hS => by go_simp⟩) hS ?_
              refine wpAnyH_take (i := 3) (v := (.agg #[.int .i64 (kk.n 0), .int .i64 (kk.n 1), .int .i64 (kk.n 2), .int .i64 (kk.n 3), .int .i64 (kk.n 4), .int .i64 (kk.n 5), .int .i64 (kk.n 6), .int .i64 (kk.n 7), .int .i64 (kk.n 8), .int .i64 (kk.n 9), .int .i64 (kk.n 10), .string kk.reply])) rfl (by kernel_rfl) (by kernel_rfl) (by kernel_rfl) (fun _ _ _ h => h) (Or.inl ⟨by kernel_rfl, fun wx hS => by have t0 := (Blk.below HX4.out hS).cell (o := 0) rfl; have t1 := (Blk.below HX4.out hS).cell (o := 1) rfl; have t2 := (Blk.below HX4.out hS).cell (o := 2) rfl; have t3 := (Blk.below HX4.out hS).cell (o := 3) rfl; have t4 := (Blk.below HX4.out hS).cell (o := 4) rfl; have t5 := (Blk.below HX4.out hS).cell (o := 5) rfl; have t6 := (Blk.below HX4.out hS).cell (o := 6) rfl; have t7 := (Blk.below HX4.out hS).cell (o := 7) rfl; have t8 := (Blk.below HX4.out hS).cell (o := 8) rfl; have t9 := (Blk.below HX4.out hS).cell (o := 9) rfl; have t10 := (Blk.below HX4.out hS).cell (o := 10) rfl; have t11 := (Blk.below HX4.out hS).cell (o := 11) rfl; go_simp⟩) hS ?_
              refine wpAnyH_ready (rs := [4]) (by kernel_rfl) (by simp) ?_
              refine AllReadyH.cons rfl (fun K hK => ?_) AllReadyH.nil
              rw [if_pos (by kernel_rfl)]
              go_simp
              refine Calls.mono (HSO.out _) ?_
              rintro e4 q4 ⟨rfl, bq⟩
              refine hK.out _ _ (hS.trans (bq.mono hS.size)) (fun hS => ?_)
              clear hK
              refine wpAnyH_take (i := 5) (v := (.bool false)) rfl (by kernel_rfl) (by kernel_rfl) (by kernel_rfl) (fun _ _ _ h => h) (Or.inl ⟨by kernel_rfl, fun wx hS => by go_simp⟩) hS ?_
              refine wpAnyH_take (i := 6) (v := (.bool false)) rfl (by kernel_rfl) (by kernel_rfl) (by kernel_rfl) (fun _ _ _ h => h) (Or.inl ⟨by kernel_rfl, fun wx hS => by go_simp⟩) hS ?_
              refine wpAnyH_take (i := 7) (v := (.bool false)) rfl (by kernel_rfl) (by kernel_rfl) (by kernel_rfl) (fun _ _ _ h => h) (Or.inl ⟨by kernel_rfl, fun wx hS => by go_simp⟩) hS ?_
              refine wpAnyH_take (i := 8) (v := (.pointer (some ⟨rb, 0, none⟩))) rfl (by kernel_rfl) (by kernel_rfl) (by kernel_rfl) (fun _ _ _ h => h) (Or.inl ⟨by kernel_rfl, fun wx hS => by go_simp⟩) hS ?_
              refine wpAnyH_take (i := 9) (v := (.string kyb)) rfl (by kernel_rfl) (by kernel_rfl) (by kernel_rfl) (fun _ _ _ h => h) (Or.inl ⟨by kernel_rfl, fun wx hS => by have t0 := (Blk.below HR4.out hS).cell (o := 0) rfl; go_simp⟩) hS ?_
              refine wpAnyH_take (i := 10) (v := (.int .i64 k)) rfl (by kernel_rfl) (by kernel_rfl) (by kernel_rfl) (fun _ _ _ h => h) (Or.inl ⟨by kernel_rfl, fun wx hS => by go_simp⟩) hS ?_
              refine wpAnyH_ready (rs := [11]) (by kernel_rfl) (by simp) ?_
              refine AllReadyH.cons rfl (fun K hK => ?_) AllReadyH.nil
              rw [if_pos (by kernel_rfl)]
              go_simp
              refine Calls.mono (HKY2.out _) ?_
              rintro e11 q11 ⟨rfl, bq⟩
              refine hK.out _ _ (hS.trans (bq.mono hS.size)) (fun hS => ?_)
              clear hK
              refine wpAnyH_take (i := 12) (v := (.bool false)) rfl (by kernel_rfl) (by kernel_rfl) (by kernel_rfl) (fun _ _ _ h => h) (Or.inl ⟨by kernel_rfl, fun wx hS => by go_simp⟩) hS ?_
              refine wpAnyH_take (i := 13) (v := (.bool false)) rfl (by kernel_rfl) (by kernel_rfl) (by kernel_rfl) (fun _ _ _ h => h) (Or.inl ⟨by kernel_rfl, fun wx hS => by go_simp⟩) hS ?_
              refine wpAnyH_done (by kernel_rfl) ?_ _
              go_simp
              refine aK _ _ ?_
              go_meet
              exact ⟨rfl, hS⟩
            · obtain rfl : ob = true := by rw [← hob]; simp [hky]
              have hkk : (kyb.toList != kb2.toList) = true := byt_ne hky
              have hke : ¬ kyb.toList = kb2.toList := by simpa using hkk
              clear hky
              refine wpAnyH_take (i := 0) (v := (.bool true)) rfl (by kernel_rfl) (by kernel_rfl) (by kernel_rfl) (fun _ _ _ h => h) (Or.inl ⟨by kernel_rfl, fun wx hS => by go_simp⟩) hS ?_
              refine wpAnyH_take (i := 1) (v := (.bool false)) rfl (by kernel_rfl) (by kernel_rfl) (by kernel_rfl) (fun _ _ _ h => h) (Or.inl ⟨by kernel_rfl, fun wx hS => by go_simp⟩) hS ?_
              refine wpAnyH_take (i := 2) (v := (.bool false)) rfl (by kernel_rfl) (by kernel_rfl) (by kernel_rfl) (fun _ _ _ h => h) (Or.inl ⟨by kernel_rfl, fun wx hS => by go_simp⟩) hS ?_
              refine wpAnyH_take (i := 3) (v := (.agg #[.int .i64 (kk.n 0), .int .i64 (kk.n 1), .int .i64 (kk.n 2), .int .i64 (kk.n 3), .int .i64 (kk.n 4), .int .i64 (kk.n 5), .int .i64 (kk.n 6), .int .i64 (kk.n 7), .int .i64 (kk.n 8), .int .i64 (kk.n 9), .int .i64 (kk.n 10), .string kk.reply])) rfl (by kernel_rfl) (by kernel_rfl) (by kernel_rfl) (fun _ _ _ h => h) (Or.inl ⟨by kernel_rfl, fun wx hS => by have t0 := (Blk.below HX4.out hS).cell (o := 0) rfl; have t1 := (Blk.below HX4.out hS).cell (o := 1) rfl; have t2 := (Blk.below HX4.out hS).cell (o := 2) rfl; have t3 := (Blk.below HX4.out hS).cell (o := 3) rfl; have t4 := (Blk.below HX4.out hS).cell (o := 4) rfl; have t5 := (Blk.below HX4.out hS).cell (o := 5) rfl; have t6 := (Blk.below HX4.out hS).cell (o := 6) rfl; have t7 := (Blk.below HX4.out hS).cell (o := 7) rfl; have t8 := (Blk.below HX4.out hS).cell (o := 8) rfl; have t9 := (Blk.below HX4.out hS).cell (o := 9) rfl; have t10 := (Blk.below HX4.out hS).cell (o := 10) rfl; have t11 := (Blk.below HX4.out hS).cell (o := 11) rfl; go_simp⟩) hS ?_
              refine wpAnyH_ready (rs := [4]) (by kernel_rfl) (by simp) ?_
              refine AllReadyH.cons rfl (fun K hK => ?_) AllReadyH.nil
              rw [if_pos (by kernel_rfl)]
              go_simp
              refine Calls.mono (HSO.out _) ?_
              rintro e4 q4 ⟨rfl, bq⟩
              refine hK.out _ _ (hS.trans (bq.mono hS.size)) (fun hS => ?_)
              clear hK
              refine wpAnyH_take (i := 5) (v := (.bool false)) rfl (by kernel_rfl) (by kernel_rfl) (by kernel_rfl) (fun _ _ _ h => h) (Or.inl ⟨by kernel_rfl, fun wx hS => by go_simp⟩) hS ?_
              refine wpAnyH_take (i := 6) (v := (.bool false)) rfl (by kernel_rfl) (by kernel_rfl) (by kernel_rfl) (fun _ _ _ h => h) (Or.inl ⟨by kernel_rfl, fun wx hS => by go_simp⟩) hS ?_
              refine wpAnyH_take (i := 7) (v := (.bool false)) rfl (by kernel_rfl) (by kernel_rfl) (by kernel_rfl) (fun _ _ _ h => h) (Or.inl ⟨by kernel_rfl, fun wx hS => by go_simp⟩) hS ?_
              refine wpAnyH_take (i := 8) (v := (.pointer (some ⟨rb, 0, none⟩))) rfl (by kernel_rfl) (by kernel_rfl) (by kernel_rfl) (fun _ _ _ h => h) (Or.inl ⟨by kernel_rfl, fun wx hS => by go_simp⟩) hS ?_
              refine wpAnyH_take (i := 9) (v := (.string kyb)) rfl (by kernel_rfl) (by kernel_rfl) (by kernel_rfl) (fun _ _ _ h => h) (Or.inl ⟨by kernel_rfl, fun wx hS => by have t0 := (Blk.below HR4.out hS).cell (o := 0) rfl; go_simp⟩) hS ?_
              refine wpAnyH_take (i := 10) (v := (.int .i64 k)) rfl (by kernel_rfl) (by kernel_rfl) (by kernel_rfl) (fun _ _ _ h => h) (Or.inl ⟨by kernel_rfl, fun wx hS => by go_simp⟩) hS ?_
              refine wpAnyH_ready (rs := [11]) (by kernel_rfl) (by simp) ?_
              refine AllReadyH.cons rfl (fun K hK => ?_) AllReadyH.nil
              rw [if_pos (by kernel_rfl)]
              go_simp
              refine Calls.mono (HKY2.out _) ?_
              rintro e11 q11 ⟨rfl, bq⟩
              refine hK.out _ _ (hS.trans (bq.mono hS.size)) (fun hS => ?_)
              clear hK
              refine wpAnyH_take (i := 12) (v := (.bool true)) rfl (by kernel_rfl) (by kernel_rfl) (by kernel_rfl) (fun _ _ _ h => h) (Or.inl ⟨by kernel_rfl, fun wx hS => by go_simp⟩) hS ?_
              refine wpAnyH_take (i := 13) (v := (.bool true)) rfl (by kernel_rfl) (by kernel_rfl) (by kernel_rfl) (fun _ _ _ h => h) (Or.inl ⟨by kernel_rfl, fun wx hS => by go_simp⟩) hS ?_
              refine wpAnyH_done (by kernel_rfl) ?_ _
              go_simp
              refine aK _ _ ?_
              go_meet
              exact ⟨rfl, hS⟩
      case rest =>
        obtain ⟨rfl, hcb⟩ := hcut
        cases ob
        case true =>
          have hbad : ofE l.length g L = 92 := by
            rw [HER.out]
            obtain ⟨h1, h2⟩ := HOK.out
            rw [if_pos (allR_no h1 (by rw [h2]; revert hob; cases (o1 && o2 && decide (kyb = kb2)) <;> simp))]
          have HBD : Hid _ := hbad
          have HBX : Hid (Below w.heap.size w wc) := HR.out.2.2.trans ((Below.trans HBa.out (hcb.mono (Below.size HBa.out))).mono HR.out.2.2.size)
          clear hbad hcb hob
          go_wp2_with fail
          go_ret2
          exact ⟨HBX.out, Or.inl ⟨by rw [HBD.out]; decide, by rw [HBD.out]; rfl⟩⟩
        have HNX : Hid (∀ j (h : j < L.length), j < k + 1 → okR g j L[j] = true) := fun j h h2 => by
          by_cases e : j = k
          · subst e
            obtain ⟨h1, h3⟩ := HOK.out
            rw [h3]
            revert hob
            cases (o1 && o2 && decide (kyb = kb2)) <;> simp
          · exact HAL.out j h (by omega)
        have hbc : Below wa.heap.size wa wc := Below.trans HBa.out (hcb.mono (Below.size HBa.out))
        have XP : Blk wc p #[.slice (some ⟨b, 0, none⟩) l.length l.length, .int .i64 g] 62 := Blk.below HR.out.1 hbc
        have XB : Blk wc b (kC (ofTo l k)) 67 := Blk.below HR.out.2.1 hbc
        have XK : Blk wc kb #[.int .i64 (kk.n 0), .int .i64 (kk.n 1), .int .i64 (kk.n 2), .int .i64 (kk.n 3), .int .i64 (kk.n 4), .int .i64 (kk.n 5), .int .i64 (kk.n 6), .int .i64 (kk.n 7), .int .i64 (kk.n 8), .int .i64 (kk.n 9), .int .i64 (kk.n 10), .string kk.reply] 67 := Blk.below HX4.out hcb
        have hkbb : kb ≠ b := fun e => by
          have h1 := XK
          unfold Blk at h1
          have h2 : b < wa.heap.size := Blk.lt HR.out.2.1
          have h3 := HKB.out
          omega
        have HP0 : Hid (∀ wx, Off b wc wx → wx.cell? ⟨p, 0, none⟩ = some (.slice (some ⟨b, 0, none⟩) l.length l.length)) := fun wx hx => keepOl hx (XP.cell rfl) hne
        have HV0 : Hid (∀ wx, Off b wc wx → wx.cell? ⟨kb, 0, none⟩ = some (.int .i64 (kk.n 0))) := fun wx hx => keepOl hx (XK.cell rfl) hkbb
        have HV1 : Hid (∀ wx, Off b wc wx → wx.cell? ⟨kb, 1, none⟩ = some (.int .i64 (kk.n 1))) := fun wx hx => keepOl hx (XK.cell rfl) hkbb
        have HV2 : Hid (∀ wx, Off b wc wx → wx.cell? ⟨kb, 2, none⟩ = some (.int .i64 (kk.n 2))) := fun wx hx => keepOl hx (XK.cell rfl) hkbb
        have HV3 : Hid (∀ wx, Off b wc wx → wx.cell? ⟨kb, 3, none⟩ = some (.int .i64 (kk.n 3))) := fun wx hx => keepOl hx (XK.cell rfl) hkbb
        have HV4 : Hid (∀ wx, Off b wc wx → wx.cell? ⟨kb, 4, none⟩ = some (.int .i64 (kk.n 4))) := fun wx hx => keepOl hx (XK.cell rfl) hkbb
        have HV5 : Hid (∀ wx, Off b wc wx → wx.cell? ⟨kb, 5, none⟩ = some (.int .i64 (kk.n 5))) := fun wx hx => keepOl hx (XK.cell rfl) hkbb
        have HV6 : Hid (∀ wx, Off b wc wx → wx.cell? ⟨kb, 6, none⟩ = some (.int .i64 (kk.n 6))) := fun wx hx => keepOl hx (XK.cell rfl) hkbb
        have HV7 : Hid (∀ wx, Off b wc wx → wx.cell? ⟨kb, 7, none⟩ = some (.int .i64 (kk.n 7))) := fun wx hx => keepOl hx (XK.cell rfl) hkbb
        have HV8 : Hid (∀ wx, Off b wc wx → wx.cell? ⟨kb, 8, none⟩ = some (.int .i64 (kk.n 8))) := fun wx hx => keepOl hx (XK.cell rfl) hkbb
        have HV9 : Hid (∀ wx, Off b wc wx → wx.cell? ⟨kb, 9, none⟩ = some (.int .i64 (kk.n 9))) := fun wx hx => keepOl hx (XK.cell rfl) hkbb
        have HV10 : Hid (∀ wx, Off b wc wx → wx.cell? ⟨kb, 10, none⟩ = some (.int .i64 (kk.n 10))) := fun wx hx => keepOl hx (XK.cell rfl) hkbb
        have HV11 : Hid (∀ wx, Off b wc wx → wx.cell? ⟨kb, 11, none⟩ = some (.string kk.reply)) := fun wx hx => keepOl hx (XK.cell rfl) hkbb
        have HTH : Hid (wc.drew.there b (k * 12) 12) := fun j hj => ⟨by
          have : wc.drew.cell? ⟨b, k * 12 + j, none⟩ = (kC (ofTo l k))[k * 12 + j]? := by rw [cell_of_row wc.drew b _ _ _ (0, 0) (Blk.drew XB)]
          rw [this, Array.getElem?_eq_getElem (by rw [hsz2]; omega)]; rfl, (Blk.drew XB).frozen⟩
        have HFIN : Hid (Blk (wc.drew.setCells b (k * 12) kk.cells) p #[.slice (some ⟨b, 0, none⟩) l.length l.length, .int .i64 g] 62 ∧ Blk (wc.drew.setCells b (k * 12) kk.cells) b (kC (ofTo l (k + 1))) 67 ∧ Below w.heap.size w (wc.drew.setCells b (k * 12) kk.cells)) := by
          have o : Off b wc (wc.drew.setCells b (k * 12) kk.cells) := off_setCells _ _ _ _ _ (Off.drew (Off.refl _ _))
          have e := blk_setCells kk.cells (k * 12) wc.drew b _ _ (Blk.drew XB)
          rw [HKC.out, HUS.out] at e
          exact ⟨Blk.off XP o hne, e, o.below hb (Below.trans HR.out.2.2 (hbc.mono hz)) (by have := hbc.size; omega)⟩
        clear XP XB XK hcb hbc HX4 HR4 HBa HR HKC HUS
        go_wp2_with fail
        refine wp_region_held_drew (S := (fun wx => Off b wc wx)) (by kernel_rfl) (Off.drew (Off.refl _ _)) (fun hS => ?_)
        refine wpAnyH_take (i := 0) (v := (.pointer (some ⟨p, 0, none⟩))) rfl (by kernel_rfl) (by kernel_rfl) (by kernel_rfl) (fun _ _ _ h => h) (Or.inl ⟨by rfl, fun wx hS => by go_simp⟩) hS ?_
        refine wpAnyH_take (i := 1) (v := (.pointer (some ⟨p, 0, none⟩))) rfl (by kernel_rfl) (by kernel_rfl) (by kernel_rfl) (fun _ _ _ h => h) (Or.inl ⟨by rfl, fun wx hS => by go_simp⟩) hS ?_
        refine wpAnyH_take (i := 2) (v := (.pointer (some ⟨p, 0, none⟩))) rfl (by kernel_rfl) (by kernel_rfl) (by kernel_rfl) (fun _ _ _ h => h) (Or.inl ⟨by rfl, fun wx hS => by go_simp⟩) hS ?_
        refine wpAnyH_take (i := 3) (v := (.slice (some ⟨b, 0, none⟩) l.length l.length)) rfl (by kernel_rfl) (by kernel_rfl) (by kernel_rfl) (fun _ _ _ h => h) (Or.inl ⟨by rfl, fun wx hS => by have s0 := HP0.out wx hS; go_simp⟩) hS ?_
        refine wpAnyH_take (i := 4) (v := (.int .i64 k)) rfl (by kernel_rfl) (by kernel_rfl) (by kernel_rfl) (fun _ _ _ h => h) (Or.inl ⟨by rfl, fun wx hS => by go_simp⟩) hS ?_
        refine wpAnyH_take (i := 5) (v := (.agg #[.int .i64 (kk.n 0), .int .i64 (kk.n 1), .int .i64 (kk.n 2), .int .i64 (kk.n 3), .int .i64 (kk.n 4), .int .i64 (kk.n 5), .int .i64 (kk.n 6), .int .i64 (kk.n 7), .int .i64 (kk.n 8), .int .i64 (kk.n 9), .int .i64 (kk.n 10), .string kk.reply])) rfl (by kernel_rfl) (by kernel_rfl) (by kernel_rfl) (fun _ _ _ h => h) (Or.inl ⟨by rfl, fun wx hS => by have s0 := HV0.out wx hS; have s1 := HV1.out wx hS; have s2 := HV2.out wx hS; have s3 := HV3.out wx hS; have s4 := HV4.out wx hS; have s5 := HV5.out wx hS; have s6 := HV6.out wx hS; have s7 := HV7.out wx hS; have s8 := HV8.out wx hS; have s9 := HV9.out wx hS; have s10 := HV10.out wx hS; have s11 := HV11.out wx hS; go_simp⟩) hS ?_
        refine wpAnyH_take (i := 6) (v := (.pointer (some ⟨b, k * 12, none⟩))) rfl (by kernel_rfl) (by kernel_rfl) (by kernel_rfl) (fun _ _ _ h => h) (Or.inl ⟨by rfl, fun wx hS => by go_simp⟩) hS ?_
        refine wpAnyH_ready (rs := [7]) (by kernel_rfl) (by simp) ?_
        refine readyH_midC 7 rfl (ty := 67) (x := .tmp 61) (y := .tmp 60) rfl rfl rfl b (k * 12) #[.int .i64 (kk.n 0), .int .i64 (kk.n 1), .int .i64 (kk.n 2), .int .i64 (kk.n 3), .int .i64 (kk.n 4), .int .i64 (kk.n 5), .int .i64 (kk.n 6), .int .i64 (kk.n 7), .int .i64 (kk.n 8), .int .i64 (kk.n 9), .int .i64 (kk.n 10), .string kk.reply] (by kernel_rfl) (by kernel_rfl) HTH.out infoK12 (one12 kk) (off_setCells _ _ _ _ _ hS) (fun hS => ?_)
        refine wpAnyH_done (by kernel_rfl) ?_ _
        go_wp2_with fail
        exact ⟨⟨k + 1, by omega, by norm_cast, HNX.out, HFIN.out⟩, by simp [intOf]; omega⟩
    · have hd : decide ((k : Int) < (l.length : Int)) = false := by simp only [decide_eq_false_iff_not]; omega
      have hd' : ¬ (k : Int) < (l.length : Int) := by omega
      obtain rfl : k = l.length := by omega
      have hr := HR.out
      rw [ofTo_all] at hr
      have hal : AllR g L L.length := fun i hi _ => HAL.out i hi (by have := HLL.out.2; omega)
      have hab : allR g 0 L = true := (allR_iff g L 0).2 (fun j hj => by rw [Nat.zero_add]; exact hal j hj hj)
      have hwk : Wk l := by
        obtain ⟨h1, h2⟩ := HLL.out
        rw [← h1]
        exact ofL_wk hg4 hal (by omega) (by omega)
      have L2 : Lw wr p b g l := ⟨hr.1, hr.2.1, hne, hwk⟩
      have HOV : Hid _ := overW_calls wr L2
      have HL2 : Hid _ := L2
      have HB2 : Hid _ := hr.2.2
      have HAB : Hid (AllR g L L.length ∧ allR g 0 L = true) := ⟨hal, hab⟩
      clear hr L2 HR hal hab hwk
      cases ho : overB l
      · have he0 : ofE l.length g L = 0 := by rw [HER.out, HAB.out.2, ho]; rfl
        have hinv : Inv g l := by
          obtain ⟨h1, h2⟩ := HLL.out
          have ho2 := ho
          rw [← h1] at ho2 ⊢
          exact ofL_inv hg1 hg4 HAB.out.1 (by omega) (by omega) (fun a b pp => overB_no ho2 pp)
        have HE0 : Hid (ofE l.length g L = 0 ∧ Inv g l) := ⟨he0, hinv⟩
        rw [ho] at HOV
        clear he0 hinv ho
        go_wp2_with fail
        refine Calls.mono HOV.out ?_
        rintro e w9 ⟨rfl, b9⟩
        go_wp2
        go_ret2
        have hq := HL2.out.below b9
        exact ⟨Below.trans HB2.out (b9.mono (Below.size HB2.out)), Or.inr ⟨HE0.out.1, p, b, rfl, ⟨hq.blk, hq.row, hq.ne, HE0.out.2⟩, hp, hb⟩⟩
      · have he0 : ofE l.length g L = 92 := by rw [HER.out, HAB.out.2, ho]; rfl
        have HE0 : Hid _ := he0
        rw [ho] at HOV
        clear he0 ho
        go_wp2_with fail
        refine Calls.mono HOV.out ?_
        rintro e w9 ⟨rfl, b9⟩
        go_wp2
        go_ret2
        exact ⟨Below.trans HB2.out (b9.mono (Below.size HB2.out)), Or.inl ⟨by rw [HE0.out]; decide, by rw [HE0.out]; rfl⟩⟩
end Go.Proofs.YtmcafgmjfgfaeaaDoor
