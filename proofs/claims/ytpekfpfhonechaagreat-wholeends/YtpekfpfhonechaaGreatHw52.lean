/- The whole's rooms: a house and its clients' stamps; a number in range, a reply that is fine. -/
import Derived.Test.YtpekfpfhonechaaGreatHw47
import Derived.Test.YtpekfpfhonechaaGreatHw51
import Derived.Test.YtpekfpfhonechaaGreatHw04
import Derived.Test.YtpekfpfhonechaaGreatHw01
import Derived.Test.YtpekfpfhonechaaGreatRows
import Derived.Test.YtpekfpfhonechaaGreatHw41
namespace Go.Proofs.YtpekfpfhonechaaGreat
open Go.RowKit
set_option linter.unusedSimpArgs false
set_option linter.unusedVariables false
variable {base : Nat}

theorem whAround_calls (n d : Int) (w : World) (hd : 0 < d) (hz : d < 1000) : Calls Tryz.prog 12 #[.int .i64 n, .int .i64 d] w fun e w' => e = .returned (.int .i64 (Led.rest n d.toNat)) ∧ w' = w := by
  have hne : ¬ d = 0 := by omega
  have hb0 : (d == 0) = false := by simpa using hne
  have hlt : n.tmod d < d := Int.tmod_lt_of_pos n hd
  have hgt : -d < n.tmod d := by
    have h1 := Int.natAbs_tmod n d
    have h2 := Nat.mod_lt n.natAbs (show 0 < d.natAbs by omega)
    omega
  have hre : ((Led.rest n d.toNat : Nat) : Int) = if n.tmod d < 0 then 0 - n.tmod d else n.tmod d := by
    unfold Led.rest
    rw [Int.toNat_of_nonneg (by omega)]
    split <;> omega
  have HR : Hid _ := hre
  clear hre
  by_cases h : n.tmod d < 0
  · have hdd : decide (n.tmod d < 0) = true := decide_eq_true h
    generalize hm : n.tmod d = m at *
    have hw : IntKind.i64.wrap m = m := by rw [IntKind.wrap_i64]; omega
    have HM : Hid _ := hm
    go_enter Tryz.func12, Tryz.ntmps12
    go_wp2
    go_ret
    refine ⟨?_, rfl⟩
    rw [HR.out, if_pos h]; simp
  · have hdd : decide (n.tmod d < 0) = false := decide_eq_false h
    generalize hm : n.tmod d = m at *
    have hw : IntKind.i64.wrap m = m := by rw [IntKind.wrap_i64]; omega
    have HM : Hid _ := hm
    go_enter Tryz.func12, Tryz.ntmps12
    go_wp2
    go_ret
    refine ⟨?_, rfl⟩
    rw [HR.out, if_neg (by omega)]; rfl
/-- A reply whose first byte is 0. -/
def fineR (r : ByteArray) : Bool := match r.data.toList with
  | [] => false
  | b :: _ => b == 0
def up4 (s : Nat → Int) (i : Nat) (v : Int) : Nat → Int := fun j => if j = i then v else s j
def rmC (p : Nat) (s : Nat → Int) : List Value := [.pointer (some ⟨p, 0, none⟩), .int .i64 (s 0), .int .i64 (s 1), .int .i64 (s 2), .int .i64 (s 3)]
theorem rmC_at (p : Nat) (s : Nat → Int) {i : Nat} (h : i < 4) : (rmC p s).toArray[1 + i]? = some (.int .i64 (s i)) := by
  rcases (show i = 0 ∨ i = 1 ∨ i = 2 ∨ i = 3 by omega) with rfl | rfl | rfl | rfl <;> rfl
theorem rmC_set (p : Nat) (s : Nat → Int) {i : Nat} (h : i < 4) (v : Int) : (rmC p s).toArray.setIfInBounds (1 + i) (.int .i64 v) = (rmC p (up4 s i v)).toArray := by
  rcases (show i = 0 ∨ i = 1 ∨ i = 2 ∨ i = 3 by omega) with rfl | rfl | rfl | rfl <;> rfl
/-- A room: a house of four clients and two goods, with each one's last stamp. -/
structure Rom (w : World) (base rb : Nat) (X : Ad) (H : Hs) (s : Nat → Int) : Prop where
  hm : Hm w base X H
  blk : Blk w rb (rmC X.p s).toArray 30
  off : ¬ X.foot rb
  lo : base ≤ rb
  pst : Pst H
  bal : Bal H
  l4 : H.l.length = 4
  g2 : H.g = 2
  st : ∀ i, i < 4 → (Led.kAt H.l i).n 10 = s i
  s0 : ∀ i, i < 4 → 0 ≤ s i
/-- What a step of a room may change. -/
structure Rst (w w' : World) (rb : Nat) (X X' : Ad) : Prop where
  chg : Chg (fun k => X.foot k ∨ k = rb) w w'
  at_ : ∀ k, X'.foot k → X.foot k ∨ w.heap.size ≤ k
theorem Rst.trans {a b c : World} {rb : Nat} {X Y Z : Ad} (h : Rst a b rb X Y) (k : Rst b c rb Y Z) : Rst a c rb X Z :=
  ⟨h.chg.trans (fun q hq => by
      rcases hq with hq | hq
      · rcases h.at_ q hq with e | e
        · exact Or.inl (Or.inl e)
        · exact Or.inr e
      · exact Or.inl (Or.inr hq)) k.chg, fun i hi => by
    rcases k.at_ i hi with e | e
    · exact h.at_ i e
    · exact Or.inr (Nat.le_trans h.chg.size e)⟩
theorem Rst.of_below {w w' : World} {rb : Nat} {X : Ad} (h : Below w.heap.size w w') : Rst w w' rb X X := ⟨Chg.of_below h, fun k hk => Or.inl hk⟩
theorem Rom.below {w w' : World} {rb : Nat} {X : Ad} {H : Hs} {s : Nat → Int} (h : Rom w base rb X H s) (hb : Below w.heap.size w w') : Rom w' base rb X H s :=
  ⟨h.hm.below hb, h.blk.below hb, h.off, h.lo, h.pst, h.bal, h.l4, h.g2, h.st, h.s0⟩
theorem Rst.old {w0 w w' : World} {rb : Nat} {X X' : Ad} {H : Hs} {s : Nat → Int} (h : Rst w w' rb X X') (k : Rom w base rb X H s) (hb : Below base w0 w) (hB : base ≤ w.heap.size) : Below base w0 w' :=
  below_chg hb hB h.chg (fun q hq => by
    rcases hq with hq | rfl
    · exact k.hm.foot_base q hq
    · exact k.lo)
/-- What a request does to the clients' stamps. -/
theorem doR_st {H : Hs} (hg : H.g ≤ 4) {who s1 : Int} (op : ByteArray) (hr : refR H.l who s1 = 0) :
    (doR H who s1 op).2.1 = 0 ∧ (doR H who s1 op).1 = layR (reqR H who op).1 (valR H who op) ∧ (doR H who s1 op).2.2.g = H.g ∧ (doR H who s1 op).2.2.l.length = H.l.length ∧ ∀ j : Nat, j < H.l.length → (Led.kAt (doR H who s1 op).2.2.l j).n 10 = if (j : Int) = who then s1 else (Led.kAt H.l j).n 10 := by
  obtain ⟨H', hH'⟩ : ∃ H', (reqR H who op).2 = H' := ⟨_, rfl⟩
  have hg2 : (reqR H who op).2.g = H.g := by
    unfold reqR
    split
    · next o _ => exact (deedR_dps hg who o).g
    · rfl
  have hk : H'.l.length = H.l.length ∧ ∀ j, (Led.kAt H'.l j).n 10 = (Led.kAt H.l j).n 10 := by
    rw [← hH']
    unfold reqR
    split
    · next o _ => exact ⟨(deedR_dps hg who o).l.len, (deedR_dps hg who o).l.st⟩
    · exact ⟨rfl, fun _ => rfl⟩
  have hls := layR_size (reqR H who op).1 (valR H who op)
  obtain ⟨i, rfl, hi, e⟩ := markR_is (l' := H'.l) (t := layR (reqR H who op).1 (valR H who op)) hr hk.1 hk.2 (by omega)
  have e4 : (doR H (i : Int) s1 op).2.2.l = Led.markL H'.l i s1 (layR (reqR H (i : Int) op).1 (valR H (i : Int) op)) := by
    unfold doR
    rw [if_pos hr]
    show (Led.markR (reqR H (i : Int) op).2.l (i : Int) s1 _).2 = _
    rw [hH', e]
  refine ⟨by unfold doR; rw [if_pos hr], by unfold doR; rw [if_pos hr], by unfold doR; rw [if_pos hr]; exact hg2, by rw [e4]; exact (Led.markL_len _ _ _ _).trans hk.1, fun j hj => ?_⟩
  rw [e4]
  by_cases he : j = i
  · subst he
    rw [if_pos rfl]
    unfold Led.markL
    rw [Led.kAt_set _ hi, if_pos rfl]
    rfl
  · rw [if_neg (by omega), Led.markL_other (by omega)]
    exact hk.2 j
/-- A client asks: what it hears, the house, the stamps. -/
def roomR (H : Hs) (s : Nat → Int) (who : Int) (o : Oo) : ByteArray × Hs × (Nat → Int) :=
  if opOk o = true then ((doR H (Led.rest who 4 : Nat) (s (Led.rest who 4) + 1) ⟨(opB o).toArray⟩).1, (doR H (Led.rest who 4 : Nat) (s (Led.rest who 4) + 1) ⟨(opB o).toArray⟩).2.2, up4 s (Led.rest who 4) (s (Led.rest who 4) + 1)) else (⟨#[]⟩, H, s)
theorem Elsw.room {w : World} {rb : Nat} {cs : Array Value} (hb : Blk w rb cs 30) {ts : List TypeId} (ht : (30 : TypeId) ∉ ts) : Elsw w (fun k => k = rb) ts := fun k cs' t hk hm e => by
  subst e
  exact absurd rfl (blk_unl hb hk (fun e => ht (e ▸ hm)))
theorem Hm.room {w w' : World} {rb : Nat} {X : Ad} {H : Hs} {cs : Array Value} (h : Hm w base X H) (hb : Blk w rb cs 30) (c : Chg (fun k => k = rb) w w') : Hm w' base X H :=
  ⟨h.ha.chg c (Elsw.room hb (by decide)), h.mks.chg c (Elsw.room hb (by decide)), h.sls.chg c (Elsw.room hb (by decide)), h.b0, h.n0, h.ds⟩
theorem opB_size (o : Oo) : (⟨(opB o).toArray⟩ : ByteArray).size ≤ maxLen := by
  have hm : 140737488351232 ≤ maxLen := by unfold maxLen; omega
  have h1 := ints_take_len o 5
  have e8 : (le8 o.pr).length = 8 := leN_len _ _
  have : (opB o).length ≤ 58 := by
    unfold opB
    rw [List.length_append, e8]
    have e : o.ints.take 5 = o.ints := List.take_of_length_le (by rw [ints_len]; omega)
    rw [e] at h1
    omega
  show (opB o).toArray.size ≤ maxLen
  rw [List.size_toArray]
  omega
set_option maxRecDepth 100000 in
set_option maxHeartbeats 2000000 in
theorem do_room (w : World) {rb : Nat} {X : Ad} {H : Hs} {s : Nat → Int} (h : Rom w base rb X H s) (hB : base ≤ w.heap.size) (who : Int) (o : Oo) (hp : o.pr < 18446744073709551616) (hs : s (Led.rest who 4) < 1099511627776) :
    Calls Tryz.prog 9 #[.pointer (some ⟨rb, 0, none⟩), .agg #[.int .i64 who, .int .i64 o.k, .int .i64 o.g, .int .i64 o.a, .int .i64 o.d, .int .i64 o.i, .float .f64 o.pr]] w fun e w' => e = .returned (.string (roomR H s who o).1) ∧
      ∃ X', Rom w' base rb X' (roomR H s who o).2.1 (roomR H s who o).2.2 ∧ Rst w w' rb X X' ∧ X'.p = X.p := by
  obtain ⟨W0, hW0, A0, B0⟩ : ∃ W0, (w.alloc (.cells #[.int .i64 who, .int .i64 o.k, .int .i64 o.g, .int .i64 o.a, .int .i64 o.d, .int .i64 o.i, .float .f64 o.pr] 41)) = W0 ∧ Blk W0 w.heap.size #[.int .i64 who, .int .i64 o.k, .int .i64 o.g, .int .i64 o.a, .int .i64 o.d, .int .i64 o.i, .float .f64 o.pr] 41 ∧ Below w.heap.size w W0 := ⟨_, rfl, blk_new _ _ _ _ rfl, by go_grown⟩
  have r0 := h.below B0
  have hlt := Led.rest_lt who 4 (by omega)
  have HA : Hid _ := whAround_calls who 4 W0 (by omega) (by omega)
  have HP : Hid _ := putOp_calls o W0 hp
  have d0 : W0.cell? ⟨w.heap.size, 0, none⟩ = some (.int .i64 who) := A0.cell rfl
  have d1 : W0.cell? ⟨w.heap.size, 1, none⟩ = some (.int .i64 o.k) := A0.cell rfl
  have d2 : W0.cell? ⟨w.heap.size, 2, none⟩ = some (.int .i64 o.g) := A0.cell rfl
  have d3 : W0.cell? ⟨w.heap.size, 3, none⟩ = some (.int .i64 o.a) := A0.cell rfl
  have d4 : W0.cell? ⟨w.heap.size, 4, none⟩ = some (.int .i64 o.d) := A0.cell rfl
  have d5 : W0.cell? ⟨w.heap.size, 5, none⟩ = some (.int .i64 o.i) := A0.cell rfl
  have d6 : W0.cell? ⟨w.heap.size, 6, none⟩ = some (.float .f64 o.pr) := A0.cell rfl
  have hlo : ∀ k, X.foot k → k < w.heap.size := h.hm.foot_lt
  have hrblt := h.blk.lt
  have HB0 : Hid (Below w.heap.size w W0) := B0
  have HR0 : Hid (Rom W0 base rb X H s) := r0
  have hB1 : base ≤ W0.heap.size := Nat.le_trans hB B0.size
  unfold roomR
  by_cases hk : opOk o = true
  · rw [if_pos hk]
    obtain ⟨i, hi⟩ : ∃ i, Led.rest who 4 = i := ⟨_, rfl⟩
    rw [hi] at hs hlt
    have hi' : Led.rest who (4 : Int).toNat = i := hi
    rw [hi'] at HA
    rw [hi]
    have hopr : opR o = #[.string ⟨(opB o).toArray⟩, .int .i64 0] := by unfold opR; rw [if_pos hk]
    rw [hopr] at HP
    have hsz := opB_size o
    generalize (⟨(opB o).toArray⟩ : ByteArray) = tx at *
    have hsi := r0.st i hlt
    have hs0 := r0.s0 i hlt
    have hr : refR H.l i (s i + 1) = 0 := by
      unfold refR
      rw [if_neg (by have := r0.l4; omega), if_neg (by omega), Int.toNat_natCast, hsi, if_neg (by omega)]
    have hdst := doR_st r0.hm.ha.lg.inv.g4 tx hr
    have hgd := r0.hm.gd r0.pst
    have hdb := doR_bal hgd r0.bal i (s i + 1) tx
    have hdp := doR_pst r0.pst i (s i + 1) tx
    have HDo : Hid _ := fun wx hm hB => do_calls (base := base) wx (X := X) (H := H) hm hB r0.pst i (s i + 1) tx hsz
    obtain ⟨D, hD⟩ : ∃ D, doR H i (s i + 1) tx = D := ⟨_, rfl⟩
    rw [hD] at hdst hdb hdp HDo ⊢
    obtain ⟨rp, d, H'⟩ := D
    dsimp only at hdst hdb hdp HDo ⊢
    obtain ⟨e0, -, eg, e2, e3⟩ := hdst
    subst e0
    have hup : ∀ j, j < 4 → (Led.kAt H'.l j).n 10 = up4 s i (s i + 1) j := fun j hj => by
      rw [e3 j (by have := r0.l4; omega)]
      unfold up4
      by_cases e : j = i
      · rw [if_pos (by omega), if_pos e]
      · rw [if_neg (by omega), if_neg e]; exact r0.st j hj
    have hu0 : ∀ j, j < 4 → 0 ≤ up4 s i (s i + 1) j := fun j hj => by
      unfold up4
      split
      · omega
      · exact r0.s0 j hj
    have HF : Hid ((∀ j, j < 4 → (Led.kAt H'.l j).n 10 = up4 s i (s i + 1) j) ∧ (∀ j, j < 4 → 0 ≤ up4 s i (s i + 1) j) ∧ Bal H' ∧ Pst H' ∧ H'.l.length = 4 ∧ H'.g = 2) := ⟨hup, hu0, hdb, hdp, e2.trans r0.l4, eg.trans r0.g2⟩
    obtain ⟨si, hsi2⟩ : ∃ si, s i = si := ⟨_, rfl⟩
    obtain ⟨pX, hpX⟩ : ∃ pX, X.p = pX := ⟨_, rfl⟩
    have HPX : Hid (X.p = pX) := hpX
    have HSI : Hid (s i = si) := hsi2
    have c1 : W0.cell? ⟨rb, 1 + i, none⟩ = some (.int .i64 si) := by rw [← hsi2]; exact r0.blk.cell (rmC_at _ _ hlt)
    have c0 : W0.cell? ⟨rb, 0, none⟩ = some (.pointer (some ⟨pX, 0, none⟩)) := by rw [← hpX]; exact r0.blk.cell rfl
    have hwr : IntKind.i64.wrap (si + 1) = si + 1 := by rw [IntKind.wrap_i64]; omega
    rw [hsi2] at HDo
    rw [hpX] at HDo
    have hfr : W0.frozen? ⟨rb, 1 + i, none⟩ = false := r0.blk.frozen
    have hix : ((1 : Nat) + i : Nat) = 1 + i := rfl
    have hi0 : (0 : Int) ≤ i := by omega
    have hi4 : (i : Int) < 4 := by omega
    have HH : Hid (Rom w base rb X H s) := h
    clear hi hi' hopr hD hk hup hu0 hdb hdp eg e2 e3 hr hsi hs0 hgd r0 A0 B0 h hsi2 hpX hs hrblt hlo
    go_enter Tryz.func9, Tryz.ntmps9
    go_wp2_with fail
    refine Calls.mono HA.out ?_
    rintro e w1 ⟨rfl, rfl⟩
    go_wp2_with fail
    refine Calls.mono HP.out ?_
    rintro e w2 ⟨rfl, b2⟩
    have c1' : w2.cell? ⟨rb, 1 + i, none⟩ = some (.int .i64 si) := (b2.cell (World.block_lt_of_cell? _ _ c1)).trans c1
    have c0' : w2.cell? ⟨rb, 0, none⟩ = some (.pointer (some ⟨pX, 0, none⟩)) := (b2.cell (World.block_lt_of_cell? _ _ c0)).trans c0
    have R2 := HR0.out.below b2
    have hfr2 : w2.frozen? ⟨rb, 1 + i, none⟩ = false := R2.blk.frozen
    have HR2 : Hid (Rom w2 base rb X H s) := R2
    have HB2 : Hid (Below w1.heap.size w1 w2) := b2
    clear R2 b2 c1 c0 hfr HA HP HR0 d0 d1 d2 d3 d4 d5 d6
    go_wp2_with fail
    go_region
    obtain ⟨W3, hW3, r3, C3, c0, c2⟩ : ∃ W3, (w2.setCell { block := rb, off := 1 + i } (Value.int IntKind.i64 (si + 1))).drew = W3 ∧ Blk W3 rb (rmC X.p (up4 s i (s i + 1))).toArray 30 ∧ Chg (fun k => k = rb) w2 W3 ∧ W3.cell? ⟨rb, 0, none⟩ = some (.pointer (some ⟨pX, 0, none⟩)) ∧ W3.cell? ⟨rb, 1 + i, none⟩ = some (.int .i64 (si + 1)) := by
      have e : Blk (w2.setCell { block := rb, off := 1 + i } (Value.int IntKind.i64 (si + 1))) rb (rmC X.p (up4 s i (s i + 1))).toArray 30 := by
        have := HR2.out.blk.set (1 + i) (.int .i64 (si + 1))
        rw [rmC_set _ _ hlt, ← HSI.out] at this
        rw [← HSI.out]
        exact this
      have e1 := e.drew
      refine ⟨_, rfl, e1, (chg_gone _).drew, by rw [← HPX.out]; exact e1.cell rfl, ?_⟩
      have := e1.cell (rmC_at X.p (up4 s i (s i + 1)) hlt)
      rw [show up4 s i (s i + 1) i = s i + 1 from if_pos rfl, HSI.out] at this
      exact this
    rw [hW3]
    have hrb : ¬ X.foot rb := HR2.out.off
    have m3 : Hm W3 base X H := HR2.out.hm.room HR2.out.blk C3
    have hB3 : base ≤ W3.heap.size := Nat.le_trans (Nat.le_trans hB1 HB2.out.size) C3.size
    have HM3 : Hid (Hm W3 base X H) := m3
    have HL3 : Hid (∀ k, X.foot k → k < w.heap.size) := HH.out.hm.foot_lt
    have HR3 : Hid (Blk W3 rb (rmC X.p (up4 s i (s i + 1))).toArray 30) := r3
    have HC3 : Hid (Chg (fun k => k = rb) w w1 ∧ Chg (fun k => k = rb) w1 w2 ∧ Chg (fun k => k = rb) w2 W3) := ⟨Chg.of_below HB0.out, Chg.of_below HB2.out, C3⟩
    clear r3 C3 m3 hW3 c1' c0' hfr2 hW0 HB0 hB1
    go_upto_region 6 with fail
    refine wp_region_held_drew (S := (fun wx => Chg X.foot W3 wx)) (by kernel_rfl) (Chg.of_below (Below.refl W3.heap.size W3) : Chg X.foot W3 W3).drew (fun hS => ?_)
    refine tkG (i := 0) (v := .pointer (some ⟨rb, 0, none⟩)) rfl hS ?_
    refine tkG (i := 1) (v := .pointer (some ⟨rb, 0, none⟩)) rfl hS ?_
    refine tkG (i := 2) (v := .pointer (some ⟨rb, 0, none⟩)) rfl hS ?_
    refine tkH (i := 3) (v := .pointer (some ⟨pX, 0, none⟩)) rfl (fun w3 hS => by have e0 : w3.cell? ⟨rb, 0, none⟩ = some (.pointer (some ⟨pX, 0, none⟩)) := Chg.cell hS c0 hrb; go_simp) hS ?_
    refine tkG (i := 4) (v := .int .i64 i) rfl hS ?_
    refine tkG (i := 5) (v := .pointer (some ⟨rb, 0, none⟩)) rfl hS ?_
    refine tkG (i := 6) (v := .int .i64 i) rfl hS ?_
    refine tkG (i := 7) (v := .pointer (some ⟨rb, 0, none⟩)) rfl hS ?_
    refine tkG (i := 8) (v := .pointer (some ⟨rb, 1, none⟩)) rfl hS ?_
    refine tkG (i := 9) (v := .pointer (some ⟨rb, 1 + i, none⟩)) rfl hS ?_
    refine tkH (i := 10) (v := .int .i64 (si + 1)) rfl (fun w3 hS => by have e0 : w3.cell? ⟨rb, 1 + i, none⟩ = some (.int .i64 (si + 1)) := Chg.cell hS c2 hrb; go_simp) hS ?_
    refine tkG (i := 11) (v := .string tx) rfl hS ?_
    refine wpAnyH_ready (rs := [12]) (by kernel_rfl) (by simp) ?_
    refine AllReadyH.cons rfl (fun K hK => ?_) AllReadyH.nil
    go_simp
    refine (HDo.out _ (HM3.out.below (Below.refl _ _).drew) hB3).mono ?_
    rintro e w4 ⟨rfl, X4, m4, t4, p4⟩
    have C4 : Chg X.foot W3 w4 := ((Chg.of_below (Below.refl W3.heap.size W3) : Chg X.foot W3 W3).drew).trans (fun k hk => Or.inl hk) t4.chg
    refine hK.out _ _ C4 (fun hS => ?_)
    clear hK
    refine tkG (i := 13) (v := .tuple #[.string rp, .int .i64 0]) rfl hS ?_
    refine tkG (i := 14) (v := .string rp) rfl hS ?_
    refine tkG (i := 15) (v := .int .i64 0) rfl hS ?_
    refine tkG (i := 16) (v := .string rp) rfl hS ?_
    refine tkG (i := 17) (v := .int .i64 0) rfl hS ?_
    refine wpAnyH_done (by kernel_rfl) ?_ _
    go_wp2
    go_ret
    obtain ⟨f1, f2, f3, f4, f5, f6⟩ := HF.out
    obtain ⟨h1, h2, h3⟩ := HC3.out
    refine ⟨rfl, X4, ⟨m4, ?_, ?_, HH.out.lo, f4, f3, f5, f6, f1, f2⟩, ⟨?_, ?_⟩, p4.trans HPX.out.symm⟩
    · rw [p4, ← HPX.out]
      exact HR3.out.chg C4 hrb
    · intro hf
      rcases t4.at_ rb hf with e | e
      · exact hrb e
      · have := HR3.out.lt
        have e' : W3.heap.size ≤ rb := e
        omega
    · exact (((Chg.of_below (Below.refl w.heap.size w) : Chg (fun k => X.foot k ∨ k = rb) w w).trans (fun k e => Or.inl (Or.inr e)) h1).trans (fun k e => Or.inl (Or.inr e)) (h2.trans (fun k e => Or.inl e) h3)).trans (fun k e => Or.inl (Or.inl e)) C4
    · intro k hf
      rcases t4.at_ k hf with e | e
      · exact Or.inl e
      · have e' : W3.heap.size ≤ k := e
        have g1 := h1.size
        have g2 := h2.size
        have g3 := h3.size
        exact Or.inr (by omega)
  · rw [if_neg hk]
    have hopr : opR o = #[.string ⟨#[]⟩, .int .i64 14] := by unfold opR; rw [if_neg hk]
    rw [hopr] at HP
    have HH : Hid (Rom w base rb X H s) := h
    clear hopr hk h r0 A0 B0 hlo hrblt
    generalize (Led.rest who (4 : Int).toNat) = i at *
    go_enter Tryz.func9, Tryz.ntmps9
    go_wp2_with fail
    refine Calls.mono HA.out ?_
    rintro e w1 ⟨rfl, rfl⟩
    go_wp2_with fail
    refine Calls.mono HP.out ?_
    rintro e w2 ⟨rfl, b2⟩
    go_wp2
    go_ret
    have b3 : Below w.heap.size w w2 := HB0.out.trans (b2.mono HB0.out.size)
    exact ⟨rfl, X, HH.out.below b3, Rst.of_below b3, rfl⟩
end Go.Proofs.YtpekfpfhonechaaGreat

namespace Go.Proofs.YtpekfpfhonechaaGreat
open Go.ChangeShapes Go.WideShapes Go.ChangeAt Go.RowKit Go.Deep
set_option linter.unusedSimpArgs false
set_option linter.unusedVariables false

/-- A client's ask. -/
structure Ak where
  who : Int
  o : Oo
def Ak.cells (a : Ak) : List Value := [.int .i64 a.who, .int .i64 a.o.k, .int .i64 a.o.g, .int .i64 a.o.a, .int .i64 a.o.d, .int .i64 a.o.i, .float .f64 a.o.pr]
def Ak.val (a : Ak) : Value := .agg #[.int .i64 a.who, .int .i64 a.o.k, .int .i64 a.o.g, .int .i64 a.o.a, .int .i64 a.o.d, .int .i64 a.o.i, .float .f64 a.o.pr]
def Ak.fit (a : Ak) : Prop := a.o.pr < 18446744073709551616
abbrev Aks (w : World) (v : Value) (l : List Ak) : Prop := Elems 7 Ak.cells Ak.fit w v l
theorem cellsWi : Tryz.prog.cellsOf 3 = 1 := by kernel_rfl
theorem cellsWf : Tryz.prog.cellsOf 37 = 1 := by kernel_rfl
theorem cellsWo : Tryz.prog.cellsOf 39 = 6 := by kernel_rfl
theorem cellsWa : Tryz.prog.cellsOf 41 = 7 := by kernel_rfl
theorem bytesWa : Tryz.prog.bytesOf 41 = 56 := by kernel_rfl
theorem list2w {α : Type} {l : List α} (h : l.length = 2) : ∃ a b, l = [a, b] := by
  match l, h with
  | [a, b], _ => exact ⟨a, b, rfl⟩
theorem list6w {α : Type} {l : List α} (h : l.length = 6) : ∃ a b c d e f, l = [a, b, c, d, e, f] := by
  match l, h with
  | [a, b, c, d, e, f], _ => exact ⟨a, b, c, d, e, f, rfl⟩
theorem list7w {α : Type} {l : List α} (h : l.length = 7) : ∃ a b c d e f g, l = [a, b, c, d, e, f, g] := by
  match l, h with
  | [a, b, c, d, e, f, g], _ => exact ⟨a, b, c, d, e, f, g, rfl⟩
section
variable {H : Type} {enc : TypeId × Value → H} {w : World} {base : Nat} {spare : Nat → Bool} {held : Bool}
theorem trod_floatW {P : Program} {fuel : Nat} {t : TypeId} {k : FloatKind} {v : Value} {x : DataW H × List MemPlace} (ht : P.underlying t = some (.float k)) (h : DataW.trod enc P w base spare held fuel t [v] = some x) : ∃ b, v = .float k b ∧ (Lit.float k b).wf = true := by
  cases fuel with
  | zero => simp [DataW.trod] at h
  | succ n =>
    cases v with
    | float k' b =>
      simp only [DataW.trod, ht] at h
      split at h
      · rename_i hk
        obtain ⟨rfl, hw⟩ := hk
        exact ⟨b, rfl, hw⟩
      · cases h
    | _ => simp [DataW.trod, ht] at h
set_option maxRecDepth 100000 in
theorem open_opW {fuel : Nat} {cs : List Value} {x : DataW H × List MemPlace} (hx : DataW.trod enc Tryz.prog w base spare held fuel 39 cs = some x) :
    ∃ o : Oo, cs = [.int .i64 o.k, .int .i64 o.g, .int .i64 o.a, .int .i64 o.d, .int .i64 o.i, .float .f64 o.pr] ∧ o.pr < 18446744073709551616 := by
  obtain ⟨xs, n, _, hxe, hl, hlen, hfl⟩ := DataW.trod_struct Tryz.underlying39 hx
  rw [cellsWo] at hl
  obtain ⟨k0, k1, k2, k3, k4, k5, rfl⟩ := list6w hl
  obtain ⟨y0, y1, y2, y3, y4, y5, hxs⟩ := list6w (l := xs) (by simpa using hlen)
  subst hxs
  have g0 := hfl 0 _ rfl
  have g1 := hfl 1 _ rfl
  have g2 := hfl 2 _ rfl
  have g3 := hfl 3 _ rfl
  have g4 := hfl 4 _ rfl
  have g5 := hfl 5 _ rfl
  simp only [cellsWi, cellsWf, List.drop_zero, List.drop_succ_cons, List.take_succ_cons, List.take_zero, List.getElem?_cons_zero, List.getElem?_cons_succ] at g0 g1 g2 g3 g4 g5
  obtain ⟨i0, e0, _, _⟩ := DataW.trod_int Tryz.underlying3 g0
  obtain ⟨i1, e1, _, _⟩ := DataW.trod_int Tryz.underlying3 g1
  obtain ⟨i2, e2, _, _⟩ := DataW.trod_int Tryz.underlying3 g2
  obtain ⟨i3, e3, _, _⟩ := DataW.trod_int Tryz.underlying3 g3
  obtain ⟨i4, e4, _, _⟩ := DataW.trod_int Tryz.underlying3 g4
  obtain ⟨bb, e5, hw⟩ := trod_floatW Tryz.underlying37 g5
  have q0 : k0 = .int .i64 i0 := by simpa [cellsWi] using e0
  have q1 : k1 = .int .i64 i1 := by simpa [cellsWi] using e1
  have q2 : k2 = .int .i64 i2 := by simpa [cellsWi] using e2
  have q3 : k3 = .int .i64 i3 := by simpa [cellsWi] using e3
  have q4 : k4 = .int .i64 i4 := by simpa [cellsWi] using e4
  have hb : bb < 2 ^ 64 := by simpa [Lit.wf] using hw
  exact ⟨⟨i0, i1, i2, i3, i4, bb⟩, by rw [q0, q1, q2, q3, q4, e5], by omega⟩
set_option maxRecDepth 100000 in
theorem open_ak {fuel : Nat} {cs : List Value} {x : DataW H × List MemPlace} (hx : DataW.trod enc Tryz.prog w base spare held fuel 41 cs = some x) (hw : (x.1.weights Tryz.prog 41).all (· ≤ reachBytes) = true) : ∃ a : Ak, cs = a.cells ∧ a.fit := by
  obtain ⟨xs, n, _, hxe, hl, hlen, hfl⟩ := DataW.trod_struct Tryz.underlying41 hx
  rw [cellsWa] at hl
  obtain ⟨k0, k1, k2, k3, k4, k5, k6, rfl⟩ := list7w hl
  obtain ⟨y0, y1, hxs⟩ := list2w (l := xs) (by simpa using hlen)
  subst hxs
  have g0 : DataW.trod enc Tryz.prog w base spare held n 3 [k0] = some y0 := by
    have q : DataW.trod enc Tryz.prog w base spare held n 3 (List.take (Tryz.prog.cellsOf 3) (List.drop 0 [k0, k1, k2, k3, k4, k5, k6])) = some y0 := hfl 0 _ rfl
    rw [cellsWi] at q; exact q
  have g1 : DataW.trod enc Tryz.prog w base spare held n 39 [k1, k2, k3, k4, k5, k6] = some y1 := by
    have q : DataW.trod enc Tryz.prog w base spare held n 39 (List.take (Tryz.prog.cellsOf 39) (List.drop 1 [k0, k1, k2, k3, k4, k5, k6])) = some y1 := hfl 1 _ rfl
    rw [cellsWo] at q; exact q
  obtain ⟨i0, e0, _, _⟩ := DataW.trod_int Tryz.underlying3 g0
  obtain ⟨o, e1, ho⟩ := open_opW g1
  have q0 : k0 = .int .i64 i0 := by simpa using e0
  simp only [List.cons.injEq, and_true] at e1
  obtain ⟨r1, r2, r3, r4, r5, r6⟩ := e1
  exact ⟨⟨i0, o⟩, by rw [q0, r1, r2, r3, r4, r5, r6]; rfl, ho⟩
theorem open_aks {v : Value} {d : DataW H} {p : List MemPlace} (hv : v.cells = #[v]) (h : DataW.Trod enc Tryz.prog w base spare held 22 v d p) (hsz : (d.weights Tryz.prog 22).all (· ≤ reachBytes) = true) (hlt : ∀ x ∈ p, x.block < w.heap.size) :
    ∃ l : List Ak, Aks w v l ∧ l.length * 56 ≤ 140737488351232 := by
  haveI : Nonempty Ak := ⟨⟨0, ⟨0, 0, 0, 0, 0, 0⟩⟩⟩
  refine open_elems Ak.cells Ak.fit Tryz.underlying22 cellsWa (fun _ => rfl) (by decide) bytesWa ?_ hv h hsz hlt
  intro fuel cs x hx hw
  exact open_ak hx hw
end
end Go.Proofs.YtpekfpfhonechaaGreat

namespace Go.Proofs.YtpekfpfhonechaaGreat
open Go.RowKit
set_option linter.unusedSimpArgs false
set_option linter.unusedVariables false
variable {base : Nat}

theorem keepCellW {w w' : World} {k o : Nat} {v : Value} (hb : Below k w w') {c : Nat} (h : w.cell? ⟨c, o, none⟩ = some v) (hc : c < k) : w'.cell? ⟨c, o, none⟩ = some v := (hb.cell (p := ⟨c, o, none⟩) hc).trans h
theorem byte_z (b : UInt8) : (((b.toNat : Nat) : Int) == 0) = (b == 0) := by
  have h : b = 0 ↔ b.toNat = 0 := ⟨fun h => by rw [h]; rfl, fun h => UInt8.toNat_inj.1 (by simpa using h)⟩
  rw [Bool.eq_iff_iff]
  simp [h]
set_option maxRecDepth 100000 in
theorem fine_calls (r : ByteArray) (w : World) : Calls Tryz.prog 10 #[.string r] w fun e w' => e = .returned (.bool (fineR r)) ∧ w' = w := by
  obtain ⟨l, hl⟩ : ∃ l, r.data.toList = l := ⟨_, rfl⟩
  have hrl : r = ⟨l.toArray⟩ := by rw [← hl]
  subst hrl
  clear hl
  cases l with
  | nil =>
    go_enter Tryz.func10, Tryz.ntmps10
    go_wp2
    go_ret
    exact ⟨rfl, rfl⟩
  | cons b l =>
    have hs : (0 : Int) < (⟨(b :: l).toArray⟩ : ByteArray).size := by show (0 : Int) < ((b :: l).toArray.size : Nat); simp
    have hfin : Hid (fineR ⟨(b :: l).toArray⟩ = (b == 0)) := rfl
    go_enter Tryz.func10, Tryz.ntmps10
    go_wp2
    go_ret
    refine ⟨?_, rfl⟩
    rw [hfin.out, ← byte_z b]
    rfl
/-- A room behind asks. -/
def runW : Hs × (Nat → Int) → List Ak → Hs × (Nat → Int) := fun p l => l.foldl (fun p a => ((roomR p.1 p.2 a.who a.o).2.1, (roomR p.1 p.2 a.who a.o).2.2)) p
def new42 : Hs × (Nat → Int) := (Hs.new 4 2, fun _ => 0)
theorem runW_take (p : Hs × (Nat → Int)) (l : List Ak) (k : Nat) (h : k < l.length) : runW p (l.take (k + 1)) = ((roomR (runW p (l.take k)).1 (runW p (l.take k)).2 l[k].who l[k].o).2.1, (roomR (runW p (l.take k)).1 (runW p (l.take k)).2 l[k].who l[k].o).2.2) := by
  unfold runW
  rw [List.take_succ_eq_append_getElem h, List.foldl_append]; rfl
theorem roomR_up (H : Hs) (s : Nat → Int) (who : Int) (o : Oo) (i : Nat) : (roomR H s who o).2.2 i ≤ s i + 1 := by
  unfold roomR
  split
  · show up4 s _ _ i ≤ _
    unfold up4
    split
    · next e => rw [e]; omega
    · omega
  · show s i ≤ _
    omega
/-- A new room. -/
theorem rom_new {w : World} {X : Ad} (h : Hm w base X (Hs.new 4 2)) (hB : base ≤ w.heap.size) : Rom (w.alloc (.cells #[.pointer (some ⟨X.p, 0, none⟩), .int .i64 0, .int .i64 0, .int .i64 0, .int .i64 0] 30)) base w.heap.size X (Hs.new 4 2) (fun _ => 0) := by
  have hz : ∀ w : Nat, ∀ k, (Led.kAt (Hs.new 4 2).l w).n k = 0 := fun w k => by
    by_cases hw : w < 4
    · rcases (show w = 0 ∨ w = 1 ∨ w = 2 ∨ w = 3 by omega) with rfl | rfl | rfl | rfl <;> rfl
    · unfold Led.kAt Hs.new
      rw [List.getElem?_replicate, if_neg hw]; rfl
  refine ⟨h.below (by go_grown), blk_new _ _ _ _ rfl, fun hf => ?_, hB, ?_, new_bal _ (fun w _ k => hz w k) (fun i => ?_) (fun i x hx => ?_), rfl, rfl, fun i _ => hz i 10, fun i _ => Int.le_refl _⟩
  · have := h.foot_lt _ hf
    omega
  · intro i x hx
    simp only [Hs.new, List.getElem?_replicate] at hx
    split at hx
    · cases hx
    · cases hx
  · unfold Hs.book Hs.new
    rw [List.getElem?_replicate]
    split <;> rfl
  · simp only [Hs.new, List.getElem?_replicate] at hx
    split at hx
    · cases hx
    · cases hx
set_option maxRecDepth 100000 in
set_option maxHeartbeats 4000000 in
theorem open_room (v : Value) (ls : List Ak) (w : World) (hl : Aks w v ls) (hz : ls.length * 56 ≤ 140737488351232) :
    Calls Tryz.prog 6 #[v] w fun e w' => ∃ rb X, e = .returned (.tuple #[.pointer (some ⟨rb, 0, none⟩), .bool true]) ∧ Rom w' w.heap.size rb X (runW new42 (ls.take 50)).1 (runW new42 (ls.take 50)).2 ∧ (∀ i, (runW new42 (ls.take 50)).2 i ≤ 50) ∧ Below w.heap.size w w' := by
  have HN : Hid _ := new_hs 4 2 w (by omega) (by omega) (by omega) (by omega)
  obtain ⟨a, cap, rfl, hc⟩ := hl.any
  have HC : Hid _ := hc
  obtain ⟨n, hn⟩ : ∃ n, ls.length = n := ⟨_, rfl⟩
  rw [hn] at hz ⊢
  have HLn : Hid _ := hn
  clear hc hl hn
  go_enter Tryz.func6, Tryz.ntmps6
  go_wp2_with fail
  refine Calls.mono HN.out ?_
  rintro e w1 ⟨X, rfl, hm, b1⟩
  have hr := rom_new hm b1.size
  have b2 : Below w.heap.size w (w1.alloc (.cells #[.pointer (some ⟨X.p, 0, none⟩), .int .i64 0, .int .i64 0, .int .i64 0, .int .i64 0] 30)) := b1.alloc b1.size _
  obtain ⟨rb, hrb⟩ : ∃ rb, w1.heap.size = rb := ⟨_, rfl⟩
  rw [hrb] at hr
  have HI : Hid (∃ X', Rom (w1.alloc (.cells #[.pointer (some ⟨X.p, 0, none⟩), .int .i64 0, .int .i64 0, .int .i64 0, .int .i64 0] 30)) w.heap.size rb X' (runW new42 (ls.take 0)).1 (runW new42 (ls.take 0)).2 ∧ (∀ i, (runW new42 (ls.take 0)).2 i ≤ (0 : Nat)) ∧ Below w.heap.size w (w1.alloc (.cells #[.pointer (some ⟨X.p, 0, none⟩), .int .i64 0, .int .i64 0, .int .i64 0, .int .i64 0] 30))) := ⟨X, hr, fun i => Int.le_refl _, b2⟩
  clear hm b1 b2 hr HN
  go_wp2_with fail
  go_loopw [7] (fun i wr => ∃ k : Nat, k ≤ n ∧ k ≤ 50 ∧ i = .int .i64 k ∧ Hid (∃ X', Rom wr w.heap.size rb X' (runW new42 (ls.take k)).1 (runW new42 (ls.take k)).2 ∧ (∀ i, (runW new42 (ls.take k)).2 i ≤ k) ∧ Below w.heap.size w wr)) (fun i _ => n - (intOf i).toNat)
  case atStart => exact ⟨0, Nat.zero_le _, by omega, rfl, HI⟩
  case round =>
    clear HI
    obtain ⟨k, hk, hk1, rfl, HR⟩ := hrel
    by_cases hgo : k < n ∧ k < 50
    · obtain ⟨hlt, hlt1⟩ := hgo
      have hd1 : decide ((k : Int) < n) = true := by simp only [decide_eq_true_eq]; omega
      have hd2 : decide ((k : Int) < 50) = true := by simp only [decide_eq_true_eq]; omega
      have hlt' : k < ls.length := by rw [HLn.out]; exact hlt
      obtain ⟨q, off, hga, _, hg, hcel, hfit⟩ := HC.out k hlt'
      subst hga
      obtain ⟨X1, m1, u1, br⟩ := HR.out
      clear HR
      have d0 := keepCellW br (hcel 0 _ rfl) hg
      have d1 := keepCellW br (hcel 1 _ rfl) hg
      have d2 := keepCellW br (hcel 2 _ rfl) hg
      have d3 := keepCellW br (hcel 3 _ rfl) hg
      have d4 := keepCellW br (hcel 4 _ rfl) hg
      have d5 := keepCellW br (hcel 5 _ rfl) hg
      have d6 := keepCellW br (hcel 6 _ rfl) hg
      rw [Nat.add_zero] at d0
      have hrt := runW_take new42 ls k hlt'
      obtain ⟨rq, hrq⟩ : ∃ rq, ls[k] = rq := ⟨_, rfl⟩
      have hdo := do_room wr m1 br.size rq.who rq.o (by rw [← hrq]; exact hfit) (by have := u1 (Led.rest rq.who 4); omega)
      have hup := fun i => roomR_up (runW new42 (ls.take k)).1 (runW new42 (ls.take k)).2 rq.who rq.o i
      rw [hrq] at hrt d0 d1 d2 d3 d4 d5 d6
      have HX : Hid (Below w.heap.size w wr) := br
      have HO : Hid (Rom wr w.heap.size rb X1 (runW new42 (ls.take k)).1 (runW new42 (ls.take k)).2) := m1
      have HU : Hid (∀ i, (runW new42 (ls.take (k + 1))).2 i ≤ ((k + 1 : Nat) : Int)) := fun i => by
        rw [hrt]
        have h1 := hup i
        have h2 := u1 i
        show (roomR (runW new42 (ls.take k)).1 (runW new42 (ls.take k)).2 rq.who rq.o).2.2 i ≤ _
        omega
      have HRT : Hid _ := hrt
      have HDo : Hid _ := hdo
      clear hdo hup u1 m1 hrt hrq hcel hfit hlt'
      generalize roomR (runW new42 (ls.take k)).1 (runW new42 (ls.take k)).2 rq.who rq.o = D at *
      generalize rq.who = aw at *
      generalize rq.o.k = ok at *
      generalize rq.o.g = og at *
      generalize rq.o.a = oa at *
      generalize rq.o.d = od at *
      generalize rq.o.i = oi at *
      generalize rq.o.pr = op at *
      go_wp2_with fail
      refine Calls.mono HDo.out ?_
      rintro e w2 ⟨rfl, X3, m3, t3, p3⟩
      have HF : Hid (∃ X', Rom w2 w.heap.size rb X' (runW new42 (ls.take (k + 1))).1 (runW new42 (ls.take (k + 1))).2 ∧ (∀ i, (runW new42 (ls.take (k + 1))).2 i ≤ ((k + 1 : Nat) : Int)) ∧ Below w.heap.size w w2) :=
        ⟨X3, by rw [HRT.out]; exact m3, HU.out, t3.old HO.out HX.out HX.out.size⟩
      clear m3 t3 p3 HDo HO HX HRT HU d0 d1 d2 d3 d4 d5 d6
      go_wp2
      exact ⟨⟨k + 1, by omega, by omega, by norm_cast, HF⟩, by simp [intOf]; omega⟩
    · have htk : ls.take k = ls.take 50 := by
        by_cases h1 : k < n
        · have : k = 50 := by omega
          rw [this]
        · have hl := HLn.out
          rw [List.take_of_length_le (by omega), List.take_of_length_le (by omega)]
      have HE : Hid (∃ X', Rom wr w.heap.size rb X' (runW new42 (ls.take 50)).1 (runW new42 (ls.take 50)).2 ∧ (∀ i, (runW new42 (ls.take 50)).2 i ≤ 50) ∧ Below w.heap.size w wr) := by
        obtain ⟨X', m, u, b⟩ := HR.out
        rw [htk] at m u
        exact ⟨X', m, fun i => by have := u i; omega, b⟩
      clear HR htk
      by_cases h1 : k < n
      · have hd1 : decide ((k : Int) < n) = true := by simp only [decide_eq_true_eq]; omega
        have hd2 : decide ((k : Int) < 50) = false := by simp only [decide_eq_false_iff_not]; omega
        go_wp2
        go_ret2
        obtain ⟨X', m, u, b⟩ := HE.out
        exact ⟨rb, X', rfl, m, u, b⟩
      · have hd1 : decide ((k : Int) < n) = false := by simp only [decide_eq_false_iff_not]; omega
        go_wp2
        go_ret2
        obtain ⟨X', m, u, b⟩ := HE.out
        exact ⟨rb, X', rfl, m, u, b⟩
end Go.Proofs.YtpekfpfhonechaaGreat
