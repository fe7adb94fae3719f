/- The house whole in memory; what is paid in and taken out; what is told of it. -/
import Derived.Test.YtpekfpfhonechaaGreatHw35
import Derived.Test.YtpekfpfhonechaaGreatHw36
import Derived.Test.YtpekfpfhonechaaGreatHw33
import Derived.Test.YtpekfpfhonechaaGreatHw26
namespace Go.Proofs.YtpekfpfhonechaaGreat
open Go.RowKit
set_option linter.unusedSimpArgs false
set_option linter.unusedVariables false
variable {p pl bl g base : Nat} {l : Ks} {mV sV : Value} {now : Int}

/-- The house as plain data. -/
structure Hs where
  g : Nat
  l : Ks
  ms : List Cal.Bo
  ss : List (Option (Clo.Au × Int))
  now : Int
def Hs.book (H : Hs) (i : Nat) : Cal.Bo := H.ms[i]?.getD ⟨1, []⟩
/-- Where it lies. -/
structure Ad where
  p : Nat
  pl : Nat
  bl : Nat
  qm : Nat
  cm : Nat
  qs : Nat
  bs : List (Nat × Value)
  sl : List (Option (Nat × Nat × Nat))
structure Hm (w : World) (base : Nat) (X : Ad) (H : Hs) : Prop where
  ha : Ha w X.p X.pl X.bl H.g H.l (.slice (some ⟨X.qm, 0, none⟩) H.g X.cm) (.slice (some ⟨X.qs, 0, none⟩) H.g H.g) H.now
  mks : Mks w base H.g X.qm X.bs H.ms
  sls : Sls w base H.g X.qs X.sl H.ss
  b0 : base ≤ X.p ∧ base ≤ X.bl ∧ base ≤ X.qs
  n0 : 0 ≤ H.now ∧ H.now ≤ 9007199254740992
  ds : ∀ (i : Nat) x, H.ss[i]? = some (some x) → x.1.ds.length = H.l.length ∧ 0 ≤ x.2 ∧ x.2 < H.l.length
/-- What a step may change. -/
def Ad.foot (X : Ad) (k : Nat) : Prop := k = X.p ∨ k = X.bl ∨ k = X.qs ∨ (∃ b ∈ X.bs, k = b.1 ∨ b.2.ownBlock = some k) ∨ (∃ a, some a ∈ X.sl ∧ (k = a.2.1 ∨ k = a.2.2))
structure Hst (w w' : World) (X X' : Ad) : Prop where
  chg : Chg X.foot w w'
  at_ : ∀ k, X'.foot k → X.foot k ∨ w.heap.size ≤ k
theorem Hst.trans {a b c : World} {X Y Z : Ad} (h : Hst a b X Y) (k : Hst b c Y Z) : Hst a c X Z :=
  ⟨h.chg.trans h.at_ k.chg, fun i hi => by
    rcases k.at_ i hi with e | e
    · exact h.at_ i e
    · exact Or.inr (Nat.le_trans h.chg.size e)⟩
theorem Hst.of_below {w w' : World} {X : Ad} (h : Below w.heap.size w w') : Hst w w' X X := ⟨Chg.of_below h, fun k hk => Or.inl hk⟩
theorem Elsw.all {w w' : World} (h : Below w.heap.size w w') : ∀ ts, Elsw w (fun k => w.heap.size ≤ k) ts := fun ts k cs t hk _ e => by have := hk.lt; omega
theorem Hm.foot_base {w : World} {X : Ad} {H : Hs} (h : Hm w base X H) : ∀ k, X.foot k → base ≤ k := by
  intro k hk
  rcases hk with rfl | rfl | rfl | ⟨b, hb, hk⟩ | ⟨a, ha, hk⟩
  · exact h.b0.1
  · exact h.b0.2.1
  · exact h.b0.2.2
  · obtain ⟨i, hi, rfl⟩ := List.getElem_of_mem hb
    have hi' : X.bs[i]? = some X.bs[i] := by simp [hi]
    obtain ⟨B, hB⟩ := get_both hi' (h.mks.nm.trans h.mks.nb.symm)
    have hk2 := h.mks.bk i _ B hi' hB
    rcases hk with rfl | hk
    · exact hk2.le
    · exact hk2.rowb k hk
  · obtain ⟨i, hi, e⟩ := List.getElem_of_mem ha
    have hi' : X.sl[i]? = some (some a) := by rw [← e]; simp [hi]
    obtain ⟨x, hx⟩ := get_both hi' (h.sls.nn.trans h.sls.ns.symm)
    cases x with
    | none =>
      have := (h.sls.non i).2 hx
      rw [hi'] at this; cases this
    | some x =>
      have := (h.sls.sal i a x hi' hx).2.2
      omega
theorem Hst.below {w0 w w' : World} {X X' : Ad} {H : Hs} (h : Hst w w' X X') (k : Hm w base X H) (hb : Below base w0 w) (hB : base ≤ w.heap.size) : Below base w0 w' :=
  hb.trans ⟨h.chg.os, h.chg.tape, h.chg.output, h.chg.size, fun i hi => h.chg.block i (by omega) (fun e => by have := k.foot_base i e; omega)⟩
/-- The whole behind a step of nothing of it. -/
theorem Hm.below {w w' : World} {X : Ad} {H : Hs} (h : Hm w base X H) (hb : Below w.heap.size w w') : Hm w' base X H := by
  have c : Chg (fun k => w.heap.size ≤ k) w w' := Chg.of_below hb
  exact ⟨h.ha.below hb, h.mks.chg c (Elsw.all hb _), h.sls.chg c (Elsw.all hb _), h.b0, h.n0, h.ds⟩
/-- The whole behind a step of the accounts. -/
theorem Hm.acc {w w' : World} {X : Ad} {H : Hs} {l' : Ks} (h : Hm w base X H) (ha : Ha w' X.p X.pl X.bl H.g l' (.slice (some ⟨X.qm, 0, none⟩) H.g X.cm) (.slice (some ⟨X.qs, 0, none⟩) H.g H.g) H.now) (c : Chg (fun k => k = X.bl) w w') (e : l'.length = H.l.length) :
    Hm w' base X { H with l := l' } ∧ Hst w w' X X :=
  ⟨⟨ha, h.mks.chg c (Elsw.one h.ha.lg.row (by decide)), h.sls.chg c (Elsw.one h.ha.lg.row (by decide)), h.b0, h.n0, fun i x hx => by
      have := h.ds i x hx
      show _ = ((l'.length : Nat)) ∧ _ ∧ _ < ((l'.length : Nat) : Int)
      rw [e]; exact this⟩,
   ⟨⟨c.os, c.tape, c.output, c.size, fun k hk hn => c.block k hk (fun e => hn (Or.inr (Or.inl e)))⟩, fun k hk => Or.inl hk⟩⟩
theorem Ha.wide {w w' : World} {l' : Ks} (h : Ha w p pl bl g l mV sV now) (hl : Led.Lg w' pl bl g l') (c : Chg (fun k => k = bl) w w') (e : l'.length = l.length) : Ha w' p pl bl g l' mV sV now :=
  ⟨by rw [e]; exact h.blk.chg c h.ne, hl⟩

def payR (g : Nat) (l : Ks) (who : Int) (o : Oo) : Int × Ks := (Led.gate (Led.refE l.length o.a [who]) l (Led.inR l who.toNat 0 o.a))
theorem payR_len (g : Nat) (l : Ks) (who : Int) (o : Oo) : (payR g l who o).2.length = l.length := Led.gate_len inR_len
set_option maxRecDepth 100000 in
set_option maxHeartbeats 1000000 in
theorem pay_hs (w : World) (h : Ha w p pl bl g l mV sV now) (who : Int) (o : Oo) :
    Calls Tryz.prog 55 #[.pointer (some ⟨p, 0, none⟩), .int .i64 who, o.val] w fun e w' => e = .returned (.int .i64 (payR g l who o).1) ∧ Ha w' p pl bl g (payR g l who o).2 mV sV now ∧ Chg (fun k => k = bl) w w' := by
  obtain ⟨W0, hW0, O0, B0⟩ : ∃ W0, (w.alloc (.cells #[.int .i64 o.k, .int .i64 o.g, .int .i64 o.a, .int .i64 o.d, .int .i64 o.i, .float .f64 o.pr] 39)) = W0 ∧ Blk W0 w.heap.size #[.int .i64 o.k, .int .i64 o.g, .int .i64 o.a, .int .i64 o.d, .int .i64 o.i, .float .f64 o.pr] 39 ∧ Below w.heap.size w W0 := ⟨_, rfl, blk_new _ _ _ _ rfl, by go_grown⟩
  have c1 : W0.cell? ⟨p, 1, none⟩ = some (.pointer (some ⟨pl, 0, none⟩)) := (h.below B0).blk.cell rfl
  have hnp : p ≠ bl := (h.below B0).ne
  have hno : w.heap.size ≠ bl := by have := h.lg.row.lt; omega
  have r0 : W0.cell? ⟨w.heap.size, 2, none⟩ = some (.int .i64 o.a) := O0.cell rfl
  have HK : Hid (∀ wx, Led.Lg wx pl bl g l → _) := fun wx hx => Led.pay_calls wx hx who o.a _ rfl
  have HH : Hid _ := h
  have HH0 : Hid _ := h.below B0
  have HB0 : Hid _ := B0
  have HR : Hid (payR g l who o = (Led.gate (Led.refE l.length o.a [who]) l (Led.inR l who.toNat 0 o.a))) := rfl
  have HN : Hid _ := payR_len g l who o
  generalize payR g l who o = R at *
  unfold Oo.val
  clear h B0
  go_enter Tryz.func55, Tryz.ntmps55
  go_upto_region 1 with fail
  refine wp_region_held_drew (S := (fun wx => Chg (fun k => k = bl) W0 wx)) (by kernel_rfl) (Chg.of_below (Below.refl W0.heap.size W0) : Chg (fun k => k = bl) W0 W0).drew (fun hS => ?_)
  refine tkG (i := 0) (v := .pointer (some ⟨p, 0, none⟩)) rfl hS ?_
  refine tkG (i := 1) (v := .pointer (some ⟨p, 0, none⟩)) rfl hS ?_
  refine tkG (i := 2) (v := .pointer (some ⟨p, 1, none⟩)) rfl hS ?_
  refine tkH (i := 3) (v := .pointer (some ⟨pl, 0, none⟩)) rfl (fun w3 hS => by have e0 : w3.cell? ⟨p, 1, none⟩ = some (.pointer (some ⟨pl, 0, none⟩)) := Chg.cell hS c1 hnp; have f0 : w3.cell? ⟨w.heap.size, 2, none⟩ = some (.int .i64 o.a) := Chg.cell hS r0 hno; go_simp) hS ?_
  refine tkG (i := 4) (v := .int .i64 who) rfl hS ?_
  refine tkG (i := 5) (v := .pointer (some ⟨w.heap.size, 2, none⟩)) rfl hS ?_
  refine tkH (i := 6) (v := .int .i64 o.a) rfl (fun w3 hS => by have e0 : w3.cell? ⟨p, 1, none⟩ = some (.pointer (some ⟨pl, 0, none⟩)) := Chg.cell hS c1 hnp; have f0 : w3.cell? ⟨w.heap.size, 2, none⟩ = some (.int .i64 o.a) := Chg.cell hS r0 hno; go_simp) hS ?_
  refine wpAnyH_ready (rs := [7]) (by kernel_rfl) (by simp) ?_
  refine AllReadyH.cons rfl (fun K hK => ?_) AllReadyH.nil
  go_simp
  refine (HK.out _ HH0.out.lg.drew).mono ?_
  rintro e w2 ⟨rfl, L2, o2⟩
  have hC : Chg (fun k => k = bl) W0 w2 := ((Chg.of_below (Below.refl W0.heap.size W0) : Chg (fun k => k = bl) W0 W0).drew).trans (fun k hk => Or.inl hk) (Chg.of_off o2 rfl)
  refine hK.out _ _ hC (fun hS => ?_)
  clear hK
  refine tkG (i := 8) (v := .int .i64 ((Led.gate (Led.refE l.length o.a [who]) l (Led.inR l who.toNat 0 o.a))).1) rfl hS ?_
  refine wpAnyH_done (by kernel_rfl) ?_ _
  have hCC : Chg (fun k => k = bl) w w2 := (Chg.of_below HB0.out : Chg (fun k => k = bl) w W0).trans (fun k hk => Or.inl hk) hC
  go_wp2
  go_ret
  rw [HR.out]
  exact ⟨rfl, Ha.wide HH.out L2 hCC (by have := HN.out; rw [HR.out] at this; exact this), hCC⟩

def takeR (g : Nat) (l : Ks) (who : Int) (o : Oo) : Int × Ks := (Led.gate (Led.refE l.length o.a [who]) l (Led.outR l who.toNat 0 1 o.a))
theorem takeR_len (g : Nat) (l : Ks) (who : Int) (o : Oo) : (takeR g l who o).2.length = l.length := Led.gate_len outR_len
set_option maxRecDepth 100000 in
set_option maxHeartbeats 1000000 in
theorem take_hs (w : World) (h : Ha w p pl bl g l mV sV now) (who : Int) (o : Oo) :
    Calls Tryz.prog 56 #[.pointer (some ⟨p, 0, none⟩), .int .i64 who, o.val] w fun e w' => e = .returned (.int .i64 (takeR g l who o).1) ∧ Ha w' p pl bl g (takeR g l who o).2 mV sV now ∧ Chg (fun k => k = bl) w w' := by
  obtain ⟨W0, hW0, O0, B0⟩ : ∃ W0, (w.alloc (.cells #[.int .i64 o.k, .int .i64 o.g, .int .i64 o.a, .int .i64 o.d, .int .i64 o.i, .float .f64 o.pr] 39)) = W0 ∧ Blk W0 w.heap.size #[.int .i64 o.k, .int .i64 o.g, .int .i64 o.a, .int .i64 o.d, .int .i64 o.i, .float .f64 o.pr] 39 ∧ Below w.heap.size w W0 := ⟨_, rfl, blk_new _ _ _ _ rfl, by go_grown⟩
  have c1 : W0.cell? ⟨p, 1, none⟩ = some (.pointer (some ⟨pl, 0, none⟩)) := (h.below B0).blk.cell rfl
  have hnp : p ≠ bl := (h.below B0).ne
  have hno : w.heap.size ≠ bl := by have := h.lg.row.lt; omega
  have r0 : W0.cell? ⟨w.heap.size, 2, none⟩ = some (.int .i64 o.a) := O0.cell rfl
  have HK : Hid (∀ wx, Led.Lg wx pl bl g l → _) := fun wx hx => Led.take_calls wx hx who o.a _ rfl
  have HH : Hid _ := h
  have HH0 : Hid _ := h.below B0
  have HB0 : Hid _ := B0
  have HR : Hid (takeR g l who o = (Led.gate (Led.refE l.length o.a [who]) l (Led.outR l who.toNat 0 1 o.a))) := rfl
  have HN : Hid _ := takeR_len g l who o
  generalize takeR g l who o = R at *
  unfold Oo.val
  clear h B0
  go_enter Tryz.func56, Tryz.ntmps56
  go_upto_region 1 with fail
  refine wp_region_held_drew (S := (fun wx => Chg (fun k => k = bl) W0 wx)) (by kernel_rfl) (Chg.of_below (Below.refl W0.heap.size W0) : Chg (fun k => k = bl) W0 W0).drew (fun hS => ?_)
  refine tkG (i := 0) (v := .pointer (some ⟨p, 0, none⟩)) rfl hS ?_
  refine tkG (i := 1) (v := .pointer (some ⟨p, 0, none⟩)) rfl hS ?_
  refine tkG (i := 2) (v := .pointer (some ⟨p, 1, none⟩)) rfl hS ?_
  refine tkH (i := 3) (v := .pointer (some ⟨pl, 0, none⟩)) rfl (fun w3 hS => by have e0 : w3.cell? ⟨p, 1, none⟩ = some (.pointer (some ⟨pl, 0, none⟩)) := Chg.cell hS c1 hnp; have f0 : w3.cell? ⟨w.heap.size, 2, none⟩ = some (.int .i64 o.a) := Chg.cell hS r0 hno; go_simp) hS ?_
  refine tkG (i := 4) (v := .int .i64 who) rfl hS ?_
  refine tkG (i := 5) (v := .pointer (some ⟨w.heap.size, 2, none⟩)) rfl hS ?_
  refine tkH (i := 6) (v := .int .i64 o.a) rfl (fun w3 hS => by have e0 : w3.cell? ⟨p, 1, none⟩ = some (.pointer (some ⟨pl, 0, none⟩)) := Chg.cell hS c1 hnp; have f0 : w3.cell? ⟨w.heap.size, 2, none⟩ = some (.int .i64 o.a) := Chg.cell hS r0 hno; go_simp) hS ?_
  refine wpAnyH_ready (rs := [7]) (by kernel_rfl) (by simp) ?_
  refine AllReadyH.cons rfl (fun K hK => ?_) AllReadyH.nil
  go_simp
  refine (HK.out _ HH0.out.lg.drew).mono ?_
  rintro e w2 ⟨rfl, L2, o2⟩
  have hC : Chg (fun k => k = bl) W0 w2 := ((Chg.of_below (Below.refl W0.heap.size W0) : Chg (fun k => k = bl) W0 W0).drew).trans (fun k hk => Or.inl hk) (Chg.of_off o2 rfl)
  refine hK.out _ _ hC (fun hS => ?_)
  clear hK
  refine tkG (i := 8) (v := .int .i64 ((Led.gate (Led.refE l.length o.a [who]) l (Led.outR l who.toNat 0 1 o.a))).1) rfl hS ?_
  refine wpAnyH_done (by kernel_rfl) ?_ _
  have hCC : Chg (fun k => k = bl) w w2 := (Chg.of_below HB0.out : Chg (fun k => k = bl) w W0).trans (fun k hk => Or.inl hk) hC
  go_wp2
  go_ret
  rw [HR.out]
  exact ⟨rfl, Ha.wide HH.out L2 hCC (by have := HN.out; rw [HR.out] at this; exact this), hCC⟩

def storeR (g : Nat) (l : Ks) (who : Int) (o : Oo) : Int × Ks := (Led.gate (Led.refG g l.length o.g o.a [who]) l (Led.inR l who.toNat (2 + o.g.toNat) o.a))
theorem storeR_len (g : Nat) (l : Ks) (who : Int) (o : Oo) : (storeR g l who o).2.length = l.length := Led.gate_len inR_len
set_option maxRecDepth 100000 in
set_option maxHeartbeats 1000000 in
theorem store_hs (w : World) (h : Ha w p pl bl g l mV sV now) (who : Int) (o : Oo) :
    Calls Tryz.prog 57 #[.pointer (some ⟨p, 0, none⟩), .int .i64 who, o.val] w fun e w' => e = .returned (.int .i64 (storeR g l who o).1) ∧ Ha w' p pl bl g (storeR g l who o).2 mV sV now ∧ Chg (fun k => k = bl) w w' := by
  obtain ⟨W0, hW0, O0, B0⟩ : ∃ W0, (w.alloc (.cells #[.int .i64 o.k, .int .i64 o.g, .int .i64 o.a, .int .i64 o.d, .int .i64 o.i, .float .f64 o.pr] 39)) = W0 ∧ Blk W0 w.heap.size #[.int .i64 o.k, .int .i64 o.g, .int .i64 o.a, .int .i64 o.d, .int .i64 o.i, .float .f64 o.pr] 39 ∧ Below w.heap.size w W0 := ⟨_, rfl, blk_new _ _ _ _ rfl, by go_grown⟩
  have c1 : W0.cell? ⟨p, 1, none⟩ = some (.pointer (some ⟨pl, 0, none⟩)) := (h.below B0).blk.cell rfl
  have hnp : p ≠ bl := (h.below B0).ne
  have hno : w.heap.size ≠ bl := by have := h.lg.row.lt; omega
  have r0 : W0.cell? ⟨w.heap.size, 1, none⟩ = some (.int .i64 o.g) := O0.cell rfl
  have r1 : W0.cell? ⟨w.heap.size, 2, none⟩ = some (.int .i64 o.a) := O0.cell rfl
  have HK : Hid (∀ wx, Led.Lg wx pl bl g l → _) := fun wx hx => Led.store_calls wx hx who o.g o.a _ rfl
  have HH : Hid _ := h
  have HH0 : Hid _ := h.below B0
  have HB0 : Hid _ := B0
  have HR : Hid (storeR g l who o = (Led.gate (Led.refG g l.length o.g o.a [who]) l (Led.inR l who.toNat (2 + o.g.toNat) o.a))) := rfl
  have HN : Hid _ := storeR_len g l who o
  generalize storeR g l who o = R at *
  unfold Oo.val
  clear h B0
  go_enter Tryz.func57, Tryz.ntmps57
  go_upto_region 1 with fail
  refine wp_region_held_drew (S := (fun wx => Chg (fun k => k = bl) W0 wx)) (by kernel_rfl) (Chg.of_below (Below.refl W0.heap.size W0) : Chg (fun k => k = bl) W0 W0).drew (fun hS => ?_)
  refine tkG (i := 0) (v := .pointer (some ⟨p, 0, none⟩)) rfl hS ?_
  refine tkG (i := 1) (v := .pointer (some ⟨p, 0, none⟩)) rfl hS ?_
  refine tkG (i := 2) (v := .pointer (some ⟨p, 1, none⟩)) rfl hS ?_
  refine tkH (i := 3) (v := .pointer (some ⟨pl, 0, none⟩)) rfl (fun w3 hS => by have e0 : w3.cell? ⟨p, 1, none⟩ = some (.pointer (some ⟨pl, 0, none⟩)) := Chg.cell hS c1 hnp; have f0 : w3.cell? ⟨w.heap.size, 1, none⟩ = some (.int .i64 o.g) := Chg.cell hS r0 hno; have f1 : w3.cell? ⟨w.heap.size, 2, none⟩ = some (.int .i64 o.a) := Chg.cell hS r1 hno; go_simp) hS ?_
  refine tkG (i := 4) (v := .int .i64 who) rfl hS ?_
  refine tkG (i := 5) (v := .pointer (some ⟨w.heap.size, 1, none⟩)) rfl hS ?_
  refine tkH (i := 6) (v := .int .i64 o.g) rfl (fun w3 hS => by have e0 : w3.cell? ⟨p, 1, none⟩ = some (.pointer (some ⟨pl, 0, none⟩)) := Chg.cell hS c1 hnp; have f0 : w3.cell? ⟨w.heap.size, 1, none⟩ = some (.int .i64 o.g) := Chg.cell hS r0 hno; have f1 : w3.cell? ⟨w.heap.size, 2, none⟩ = some (.int .i64 o.a) := Chg.cell hS r1 hno; go_simp) hS ?_
  refine tkG (i := 7) (v := .pointer (some ⟨w.heap.size, 2, none⟩)) rfl hS ?_
  refine tkH (i := 8) (v := .int .i64 o.a) rfl (fun w3 hS => by have e0 : w3.cell? ⟨p, 1, none⟩ = some (.pointer (some ⟨pl, 0, none⟩)) := Chg.cell hS c1 hnp; have f0 : w3.cell? ⟨w.heap.size, 1, none⟩ = some (.int .i64 o.g) := Chg.cell hS r0 hno; have f1 : w3.cell? ⟨w.heap.size, 2, none⟩ = some (.int .i64 o.a) := Chg.cell hS r1 hno; go_simp) hS ?_
  refine wpAnyH_ready (rs := [9]) (by kernel_rfl) (by simp) ?_
  refine AllReadyH.cons rfl (fun K hK => ?_) AllReadyH.nil
  go_simp
  refine (HK.out _ HH0.out.lg.drew).mono ?_
  rintro e w2 ⟨rfl, L2, o2⟩
  have hC : Chg (fun k => k = bl) W0 w2 := ((Chg.of_below (Below.refl W0.heap.size W0) : Chg (fun k => k = bl) W0 W0).drew).trans (fun k hk => Or.inl hk) (Chg.of_off o2 rfl)
  refine hK.out _ _ hC (fun hS => ?_)
  clear hK
  refine tkG (i := 10) (v := .int .i64 ((Led.gate (Led.refG g l.length o.g o.a [who]) l (Led.inR l who.toNat (2 + o.g.toNat) o.a))).1) rfl hS ?_
  refine wpAnyH_done (by kernel_rfl) ?_ _
  have hCC : Chg (fun k => k = bl) w w2 := (Chg.of_below HB0.out : Chg (fun k => k = bl) w W0).trans (fun k hk => Or.inl hk) hC
  go_wp2
  go_ret
  rw [HR.out]
  exact ⟨rfl, Ha.wide HH.out L2 hCC (by have := HN.out; rw [HR.out] at this; exact this), hCC⟩

def fetchR (g : Nat) (l : Ks) (who : Int) (o : Oo) : Int × Ks := (Led.gate (Led.refG g l.length o.g o.a [who]) l (Led.outR l who.toNat (2 + o.g.toNat) (6 + o.g.toNat) o.a))
theorem fetchR_len (g : Nat) (l : Ks) (who : Int) (o : Oo) : (fetchR g l who o).2.length = l.length := Led.gate_len outR_len
set_option maxRecDepth 100000 in
set_option maxHeartbeats 1000000 in
theorem fetch_hs (w : World) (h : Ha w p pl bl g l mV sV now) (who : Int) (o : Oo) :
    Calls Tryz.prog 58 #[.pointer (some ⟨p, 0, none⟩), .int .i64 who, o.val] w fun e w' => e = .returned (.int .i64 (fetchR g l who o).1) ∧ Ha w' p pl bl g (fetchR g l who o).2 mV sV now ∧ Chg (fun k => k = bl) w w' := by
  obtain ⟨W0, hW0, O0, B0⟩ : ∃ W0, (w.alloc (.cells #[.int .i64 o.k, .int .i64 o.g, .int .i64 o.a, .int .i64 o.d, .int .i64 o.i, .float .f64 o.pr] 39)) = W0 ∧ Blk W0 w.heap.size #[.int .i64 o.k, .int .i64 o.g, .int .i64 o.a, .int .i64 o.d, .int .i64 o.i, .float .f64 o.pr] 39 ∧ Below w.heap.size w W0 := ⟨_, rfl, blk_new _ _ _ _ rfl, by go_grown⟩
  have c1 : W0.cell? ⟨p, 1, none⟩ = some (.pointer (some ⟨pl, 0, none⟩)) := (h.below B0).blk.cell rfl
  have hnp : p ≠ bl := (h.below B0).ne
  have hno : w.heap.size ≠ bl := by have := h.lg.row.lt; omega
  have r0 : W0.cell? ⟨w.heap.size, 1, none⟩ = some (.int .i64 o.g) := O0.cell rfl
  have r1 : W0.cell? ⟨w.heap.size, 2, none⟩ = some (.int .i64 o.a) := O0.cell rfl
  have HK : Hid (∀ wx, Led.Lg wx pl bl g l → _) := fun wx hx => Led.fetch_calls wx hx who o.g o.a _ rfl
  have HH : Hid _ := h
  have HH0 : Hid _ := h.below B0
  have HB0 : Hid _ := B0
  have HR : Hid (fetchR g l who o = (Led.gate (Led.refG g l.length o.g o.a [who]) l (Led.outR l who.toNat (2 + o.g.toNat) (6 + o.g.toNat) o.a))) := rfl
  have HN : Hid _ := fetchR_len g l who o
  generalize fetchR g l who o = R at *
  unfold Oo.val
  clear h B0
  go_enter Tryz.func58, Tryz.ntmps58
  go_upto_region 1 with fail
  refine wp_region_held_drew (S := (fun wx => Chg (fun k => k = bl) W0 wx)) (by kernel_rfl) (Chg.of_below (Below.refl W0.heap.size W0) : Chg (fun k => k = bl) W0 W0).drew (fun hS => ?_)
  refine tkG (i := 0) (v := .pointer (some ⟨p, 0, none⟩)) rfl hS ?_
  refine tkG (i := 1) (v := .pointer (some ⟨p, 0, none⟩)) rfl hS ?_
  refine tkG (i := 2) (v := .pointer (some ⟨p, 1, none⟩)) rfl hS ?_
  refine tkH (i := 3) (v := .pointer (some ⟨pl, 0, none⟩)) rfl (fun w3 hS => by have e0 : w3.cell? ⟨p, 1, none⟩ = some (.pointer (some ⟨pl, 0, none⟩)) := Chg.cell hS c1 hnp; have f0 : w3.cell? ⟨w.heap.size, 1, none⟩ = some (.int .i64 o.g) := Chg.cell hS r0 hno; have f1 : w3.cell? ⟨w.heap.size, 2, none⟩ = some (.int .i64 o.a) := Chg.cell hS r1 hno; go_simp) hS ?_
  refine tkG (i := 4) (v := .int .i64 who) rfl hS ?_
  refine tkG (i := 5) (v := .pointer (some ⟨w.heap.size, 1, none⟩)) rfl hS ?_
  refine tkH (i := 6) (v := .int .i64 o.g) rfl (fun w3 hS => by have e0 : w3.cell? ⟨p, 1, none⟩ = some (.pointer (some ⟨pl, 0, none⟩)) := Chg.cell hS c1 hnp; have f0 : w3.cell? ⟨w.heap.size, 1, none⟩ = some (.int .i64 o.g) := Chg.cell hS r0 hno; have f1 : w3.cell? ⟨w.heap.size, 2, none⟩ = some (.int .i64 o.a) := Chg.cell hS r1 hno; go_simp) hS ?_
  refine tkG (i := 7) (v := .pointer (some ⟨w.heap.size, 2, none⟩)) rfl hS ?_
  refine tkH (i := 8) (v := .int .i64 o.a) rfl (fun w3 hS => by have e0 : w3.cell? ⟨p, 1, none⟩ = some (.pointer (some ⟨pl, 0, none⟩)) := Chg.cell hS c1 hnp; have f0 : w3.cell? ⟨w.heap.size, 1, none⟩ = some (.int .i64 o.g) := Chg.cell hS r0 hno; have f1 : w3.cell? ⟨w.heap.size, 2, none⟩ = some (.int .i64 o.a) := Chg.cell hS r1 hno; go_simp) hS ?_
  refine wpAnyH_ready (rs := [9]) (by kernel_rfl) (by simp) ?_
  refine AllReadyH.cons rfl (fun K hK => ?_) AllReadyH.nil
  go_simp
  refine (HK.out _ HH0.out.lg.drew).mono ?_
  rintro e w2 ⟨rfl, L2, o2⟩
  have hC : Chg (fun k => k = bl) W0 w2 := ((Chg.of_below (Below.refl W0.heap.size W0) : Chg (fun k => k = bl) W0 W0).drew).trans (fun k hk => Or.inl hk) (Chg.of_off o2 rfl)
  refine hK.out _ _ hC (fun hS => ?_)
  clear hK
  refine tkG (i := 10) (v := .int .i64 ((Led.gate (Led.refG g l.length o.g o.a [who]) l (Led.outR l who.toNat (2 + o.g.toNat) (6 + o.g.toNat) o.a))).1) rfl hS ?_
  refine wpAnyH_done (by kernel_rfl) ?_ _
  have hCC : Chg (fun k => k = bl) w w2 := (Chg.of_below HB0.out : Chg (fun k => k = bl) w W0).trans (fun k hk => Or.inl hk) hC
  go_wp2
  go_ret
  rw [HR.out]
  exact ⟨rfl, Ha.wide HH.out L2 hCC (by have := HN.out; rw [HR.out] at this; exact this), hCC⟩


set_option maxRecDepth 100000 in
set_option maxHeartbeats 1000000 in
theorem market_hs (w : World) {X : Ad} {H : Hs} (h : Hm w base X H) (i : Nat) (hi : i < H.g) {B : Cal.Bo} (hB : H.ms[i]? = some B) :
    Calls Tryz.prog 13 #[.pointer (some ⟨X.p, 0, none⟩), .int .i64 i] w fun e w' => ∃ v', e = .returned v' ∧ w'.ownsRow w.heap.size 51 6 v' B.os.length (Cal.odL B.os) ∧ Below w.heap.size w w' := by
  have c2 : w.cell? ⟨X.p, 2, none⟩ = some (.slice (some ⟨X.qm, 0, none⟩) H.g X.cm) := h.ha.blk.cell rfl
  have hma := made_hs w h.ha
  have HHS : Hid _ := has_hs w h.ha i
  have hg4 := h.ha.lg.inv.g4
  rw [decide_eq_true (show 0 ≤ (i : Int) ∧ (i : Int) ≤ (H.g : Int) - 1 by omega)] at HHS
  obtain ⟨b, hb⟩ := get_both hB (h.mks.nb.trans h.mks.nm.symm)
  obtain ⟨cs, hr, hr2⟩ := h.mks.row
  have cq : w.cell? ⟨X.qm, i, none⟩ = some (.pointer (some ⟨b.1, 0, none⟩)) := hr.cell (hr2 i b hb)
  have HO : Hid _ := Cal.orders_calls w (h.mks.bk i b B hb hB)
  have hii : (i : Int) < (H.g : Int) := by omega
  clear h hr hr2 hb hB
  go_enter Tryz.func13, Tryz.ntmps13
  go_wp2_with fail
  refine hma.mono ?_
  rintro e w1 ⟨rfl, rfl⟩
  go_wp2_with fail
  refine Calls.mono HHS.out ?_
  rintro e w2 ⟨rfl, rfl⟩
  go_wp2_with fail
  refine Calls.mono HO.out ?_
  rintro e w3 ⟨v', rfl, O3, b3⟩
  go_wp2
  go_ret
  exact ⟨_, rfl, O3, b3⟩
end Go.Proofs.YtpekfpfhonechaaGreat

namespace Go.Proofs.YtpekfpfhonechaaGreat
open Go.RowKit
set_option linter.unusedSimpArgs false
set_option linter.unusedVariables false

abbrev IIs := List (Int × Int)
def igt : IIs → Int → Option Int
  | [], _ => none
  | x :: r, k => if k = x.1 then some x.2 else igt r k
def ipt : IIs → Int → Int → IIs
  | [], k, v => [(k, v)]
  | x :: r, k, v => if k = x.1 then (k, v) :: r else x :: ipt r k v
def kv (l : IIs) : KVs := l.map fun x => (x.1, Value.int .i64 x.2)
theorem vget_kv (l : IIs) (k : Int) : vget (kv l) k = (igt l k).map (Value.int .i64) := by
  induction l with
  | nil => rfl
  | cons x l ih =>
    show (if k = x.1 then _ else vget (kv l) k) = Option.map _ (if k = x.1 then _ else igt l k)
    split
    · rfl
    · exact ih
theorem vput_kv (l : IIs) (k v : Int) : vput (kv l) k (.int .i64 v) = kv (ipt l k v) := by
  induction l with
  | nil => rfl
  | cons x l ih =>
    show (if k = x.1 then _ else _ :: vput (kv l) k _) = kv (if k = x.1 then _ else x :: ipt l k v)
    split
    · rfl
    · rw [ih]; rfl
theorem igt_same (l : IIs) (k v : Int) : igt (ipt l k v) k = some v := by
  induction l with
  | nil => simp [ipt, igt]
  | cons x l ih =>
    unfold ipt
    split
    · simp [igt]
    · rename_i h; simp [igt, h, ih]
theorem igt_other (l : IIs) (k j v : Int) (h : j ≠ k) : igt (ipt l k v) j = igt l j := by
  induction l with
  | nil => simp [ipt, igt, h]
  | cons x l ih =>
    unfold ipt
    split
    · rename_i e; subst e; simp [igt, h]
    · simp [igt, ih]
def limS (m : IIs) (o : Cal.Od) : IIs := if o.by = true then ipt m o.id o.pr else m
def limM (os : List Cal.Od) : IIs := os.foldl limS []
theorem fold_none : ∀ (os : List Cal.Od) (m : IIs) (x : Int), (∀ o ∈ os, o.id = x → o.by = false) → igt (os.foldl limS m) x = igt m x
  | [], m, x, _ => rfl
  | o :: os, m, x, h => by
    rw [List.foldl_cons, fold_none os _ x (fun y hy => h y (List.mem_cons_of_mem _ hy))]
    unfold limS
    split
    · rename_i hb
      refine igt_other _ _ _ _ (fun e => ?_)
      have := h o (List.mem_cons_self ..) e.symm
      rw [hb] at this; cases this
    · rfl
theorem fold_some : ∀ (os : List Cal.Od) (m : IIs) (o : Cal.Od), os.Pairwise (fun a b => a.id ≠ b.id) → o ∈ os → o.by = true → igt (os.foldl limS m) o.id = some o.pr
  | a :: os, m, o, hp, ho, hb => by
    rw [List.pairwise_cons] at hp
    rw [List.foldl_cons]
    rcases List.mem_cons.1 ho with rfl | ho
    · rw [fold_none os _ _ (fun y hy e => absurd e.symm (hp.1 y hy))]
      unfold limS
      rw [if_pos hb]
      exact igt_same _ _ _
    · exact fold_some os _ o hp.2 ho hb
theorem fold_pr : ∀ (os : List Cal.Od) (m : IIs) (x q : Int), igt (os.foldl limS m) x = some q → igt m x = some q ∨ ∃ o ∈ os, q = o.pr
  | [], m, x, q, h => Or.inl h
  | o :: os, m, x, q, h => by
    rw [List.foldl_cons] at h
    rcases fold_pr os _ x q h with h1 | ⟨y, hy, e⟩
    · unfold limS at h1
      split at h1
      · by_cases e : x = o.id
        · subst e
          rw [igt_same] at h1
          exact Or.inr ⟨o, List.mem_cons_self .., by simpa using h1.symm⟩
        · rw [igt_other _ _ _ _ e] at h1; exact Or.inl h1
      · exact Or.inl h1
    · exact Or.inr ⟨y, List.mem_cons_of_mem _ hy, e⟩
theorem lim_take (os : List Cal.Od) (k : Nat) (h : k < os.length) : limM (os.take (k + 1)) = limS (limM (os.take k)) os[k] := by
  unfold limM
  rw [List.take_succ_eq_append_getElem h, List.foldl_append]
  rfl

def stepF (g : Nat) (price : Int) (lm : IIs) (s : Ks × List Cal.Fi × List Cal.Fi) (f : Cal.Fi) : Ks × List Cal.Fi × List Cal.Fi :=
  match igt lm f.1 with
  | some q => (bindL g s.1 f.2.1 (-1) ((price - q) * f.2.2), s.2.1 ++ [f], s.2.2)
  | none => (s.1, s.2.1, s.2.2 ++ [f])
def clrS (g : Nat) (l : Ks) (B : Cal.Bo) (k : Nat) : Ks × List Cal.Fi × List Cal.Fi := (B.fl.take k).foldl (stepF g (Cal.crs B.os).1 (limM B.os)) (l, [], [])
theorem clrS_zero (g : Nat) (l : Ks) (B : Cal.Bo) : clrS g l B 0 = (l, [], []) := rfl
theorem clrS_succ (g : Nat) (l : Ks) (B : Cal.Bo) (k : Nat) (h : k < B.fl.length) : clrS g l B (k + 1) = stepF g (Cal.crs B.os).1 (limM B.os) (clrS g l B k) B.fl[k] := by
  unfold clrS
  rw [List.take_succ_eq_append_getElem h, List.foldl_append]
  rfl
/-- What the accounts are behind a clearing. -/
def clrL (g : Nat) (i : Int) (l : Ks) (B : Cal.Bo) : Ks :=
  setl g i (Cal.crs B.os).1 ((clrS g l B B.fl.length).2.1.length + (clrS g l B B.fl.length).2.2.length) (clrS g l B B.fl.length).1 (clrS g l B B.fl.length).2.1 (clrS g l B B.fl.length).2.2
theorem clrS_parts (g : Nat) (l : Ks) (B : Cal.Bo) : ∀ k, k ≤ B.fl.length → (clrS g l B k).1.length = l.length ∧ (clrS g l B k).2.1 = (B.fl.take k).filter (fun f => (igt (limM B.os) f.1).isSome) ∧ (clrS g l B k).2.2 = (B.fl.take k).filter (fun f => !(igt (limM B.os) f.1).isSome)
  | 0, _ => ⟨rfl, rfl, rfl⟩
  | k + 1, h => by
    obtain ⟨h1, h2, h3⟩ := clrS_parts g l B k (by omega)
    rw [clrS_succ g l B k (by omega), List.take_succ_eq_append_getElem (by omega), List.filter_append, List.filter_append]
    unfold stepF
    cases hi : igt (limM B.os) B.fl[k].1 with
    | none => simp [h1, h2, h3, hi]
    | some q => simp [h1, h2, h3, hi, bindL_len]
theorem clrL_len (g : Nat) (i : Int) (l : Ks) (B : Cal.Bo) : (clrL g i l B).length = l.length := by
  unfold clrL
  rw [setl_len]
  exact (clrS_parts g l B _ (Nat.le_refl _)).1
theorem sides {B : Cal.Bo} (h : Cal.BInv B) : ∀ l : List Cal.Fi, (∀ f ∈ l, f ∈ B.fl) → amF (l.filter (fun f => (igt (limM B.os) f.1).isSome)) = Cal.sdS B.os true l ∧ amF (l.filter (fun f => !(igt (limM B.os) f.1).isSome)) = Cal.sdS B.os false l
  | [], _ => ⟨rfl, rfl⟩
  | f :: l, hm => by
    obtain ⟨h1, h2⟩ := sides h l (fun x hx => hm x (List.mem_cons_of_mem _ hx))
    obtain ⟨o, ho, e1, _⟩ := Cal.fills_mem h (hm f (List.mem_cons_self ..))
    have s1 := Cal.sdR_one true f o e1 B.os h.ids ho
    have s2 := Cal.sdR_one false f o e1 B.os h.ids ho
    simp only [Cal.sdS, s1, s2]
    cases hb : o.by with
    | true =>
      have hg : igt (limM B.os) f.1 = some o.pr := by rw [e1]; exact fold_some _ _ o h.ids ho hb
      simp only [Option.not_isSome] at h2 ⊢
      simp [hg, amF, h1, h2]
    | false =>
      have hg : igt (limM B.os) f.1 = none := by
        have := fold_none B.os [] f.1 (fun y hy e => by
          have : y = o := h.same hy ho (e.trans e1)
          rw [this]; exact hb)
        exact this
      simp only [Option.not_isSome] at h2 ⊢
      simp [hg, amF, h1, h2]
theorem clr_even {g : Nat} {l : Ks} {B : Cal.Bo} (h : Cal.BInv B) : amF (clrS g l B B.fl.length).2.1 = amF (clrS g l B B.fl.length).2.2 := by
  obtain ⟨_, h2, h3⟩ := clrS_parts g l B _ (Nat.le_refl _)
  rw [h2, h3, List.take_length]
  obtain ⟨s1, s2⟩ := sides h B.fl (fun _ hf => hf)
  rw [s1, s2, Cal.side_true h, Cal.side_true h]
theorem fl_bd {B : Cal.Bo} (h : Cal.BInv B) {f : Cal.Fi} (hf : f ∈ B.fl) : 0 < f.2.2 ∧ f.2.2 ≤ 1048576 := by
  obtain ⟨o, ho, _, _, h1, h2⟩ := Cal.fills_mem h hf
  exact ⟨h1, (Cal.fl_am h hf).2⟩
theorem clr_pos {g : Nat} {l : Ks} {B : Cal.Bo} (h : Cal.BInv B) : posF (clrS g l B B.fl.length).2.1 ∧ posF (clrS g l B B.fl.length).2.2 ∧ (clrS g l B B.fl.length).2.1.length ≤ 1000 ∧ (clrS g l B B.fl.length).2.2.length ≤ 1000 := by
  obtain ⟨_, h2, h3⟩ := clrS_parts g l B _ (Nat.le_refl _)
  rw [h2, h3, List.take_length]
  have hl := Cal.fl_len B
  refine ⟨fun f hf => fl_bd h (List.mem_filter.1 hf).1, fun f hf => fl_bd h (List.mem_filter.1 hf).1, ?_, ?_⟩
  · have := List.length_filter_le (fun f : Cal.Fi => (igt (limM B.os) f.1).isSome) B.fl; omega
  · have := List.length_filter_le (fun f : Cal.Fi => !(igt (limM B.os) f.1).isSome) B.fl; omega
theorem may_pr {o : Cal.Od} (h : Cal.mayB o = true) : 0 ≤ o.pr ∧ o.pr ≤ 1099511627776 := by
  unfold Cal.mayB at h
  simp only [Bool.and_eq_true, decide_eq_true_eq] at h
  exact h.1.2
theorem crs_pr (l : List Cal.Od) : 0 ≤ (Cal.crs l).1 ∧ (Cal.crs l).1 ≤ 1099511627776 := by
  unfold Cal.crs
  have : ∀ (J t : List Cal.Od) (s : Int × Int), (∀ o ∈ t, Cal.mayB o = true) → 0 ≤ s.1 ∧ s.1 ≤ 1099511627776 → 0 ≤ (t.foldl (Cal.crS J) s).1 ∧ (t.foldl (Cal.crS J) s).1 ≤ 1099511627776 := by
    intro J t
    induction t with
    | nil => intro s _ h; exact h
    | cons o t ih =>
      intro s hm h
      rw [List.foldl_cons]
      refine ih _ (fun x hx => hm x (List.mem_cons_of_mem _ hx)) ?_
      unfold Cal.crS
      split
      · exact may_pr (hm o (List.mem_cons_self ..))
      · exact h
  exact this _ _ _ Cal.jdg_may ⟨Int.le_refl _, by decide⟩
theorem lim_bd {B : Cal.Bo} (h : Cal.BInv B) {x q : Int} (hq : igt (limM B.os) x = some q) : 0 ≤ q ∧ q ≤ 1099511627776 := by
  rcases fold_pr B.os [] x q hq with h1 | ⟨o, ho, rfl⟩
  · cases h1
  · exact may_pr (h.may o ho)
end Go.Proofs.YtpekfpfhonechaaGreat
