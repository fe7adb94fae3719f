/- The house whole in memory; what is paid in and taken out; what is told of it. -/
import Derived.Test.YtgofjheoebabeaaGreatDoorHn37
import Derived.Test.YtgofjheoebabeaaGreatDoorHn39
namespace Go.Proofs.YtgofjheoebabeaaGreatDoor
open Go.RowKit
set_option linter.unusedSimpArgs false
set_option linter.unusedVariables false
variable {p pl bl g base : Nat} {l : Ks} {mV sV : Value} {now : Int}

/-- The house as plain data. -/
structure Hs where
  g : Nat
  l : Ks
  ms : List Cal.Bo
  ss : List (Option (Clo.Au × Int))
  now : Int
def Hs.book (H : Hs) (i : Nat) : Cal.Bo := H.ms[i]?.getD ⟨1, []⟩
/-- Where it lies. -/
structure Ad where
  p : Nat
  pl : Nat
  bl : Nat
  qm : Nat
  cm : Nat
  qs : Nat
  bs : List (Nat × Value)
  sl : List (Option (Nat × Nat × Nat))
structure Hm (w : World) (base : Nat) (X : Ad) (H : Hs) : Prop where
  ha : Ha w X.p X.pl X.bl H.g H.l (.slice (some ⟨X.qm, 0, none⟩) H.g X.cm) (.slice (some ⟨X.qs, 0, none⟩) H.g H.g) H.now
  mks : Mks w base H.g X.qm X.bs H.ms
  sls : Sls w base H.g X.qs X.sl H.ss
  b0 : base ≤ X.p ∧ base ≤ X.bl ∧ base ≤ X.qs
  n0 : 0 ≤ H.now ∧ H.now ≤ 9007199254740992
  ds : ∀ (i : Nat) x, H.ss[i]? = some (some x) → x.1.state = 0 ∧ x.1.ds.length = H.l.length ∧ 0 ≤ x.2 ∧ x.2 < H.l.length
/-- What a step may change. -/
def Ad.foot (X : Ad) (k : Nat) : Prop := k = X.p ∨ k = X.bl ∨ k = X.qs ∨ (∃ b ∈ X.bs, k = b.1 ∨ b.2.ownBlock = some k) ∨ (∃ a, some a ∈ X.sl ∧ (k = a.2.1 ∨ k = a.2.2))
structure Hst (w w' : World) (X X' : Ad) : Prop where
  chg : Chg X.foot w w'
  at_ : ∀ k, X'.foot k → X.foot k ∨ w.heap.size ≤ k
theorem Hst.trans {a b c : World} {X Y Z : Ad} (h : Hst a b X Y) (k : Hst b c Y Z) : Hst a c X Z :=
  ⟨h.chg.trans h.at_ k.chg, fun i hi => by
    rcases k.at_ i hi with e | e
    · exact h.at_ i e
    · exact Or.inr (Nat.le_trans h.chg.size e)⟩
theorem Hst.of_below {w w' : World} {X : Ad} (h : Below w.heap.size w w') : Hst w w' X X := ⟨Chg.of_below h, fun k hk => Or.inl hk⟩
theorem Elsw.all {w w' : World} (h : Below w.heap.size w w') : ∀ ts, Elsw w (fun k => w.heap.size ≤ k) ts := fun ts k cs t hk _ e => by have := hk.lt; omega
theorem Hm.foot_base {w : World} {X : Ad} {H : Hs} (h : Hm w base X H) : ∀ k, X.foot k → base ≤ k := by
  intro k hk
  rcases hk with rfl | rfl | rfl | ⟨b, hb, hk⟩ | ⟨a, ha, hk⟩
  · exact h.b0.1
  · exact h.b0.2.1
  · exact h.b0.2.2
  · obtain ⟨i, hi, rfl⟩ := List.getElem_of_mem hb
    have hi' : X.bs[i]? = some X.bs[i] := by simp [hi]
    obtain ⟨B, hB⟩ := get_both hi' (h.mks.nm.trans h.mks.nb.symm)
    have hk2 := h.mks.bk i _ B hi' hB
    rcases hk with rfl | hk
    · exact hk2.le
    · exact hk2.rowb k hk
  · obtain ⟨i, hi, e⟩ := List.getElem_of_mem ha
    have hi' : X.sl[i]? = some (some a) := by rw [← e]; simp [hi]
    obtain ⟨x, hx⟩ := get_both hi' (h.sls.nn.trans h.sls.ns.symm)
    cases x with
    | none =>
      have := (h.sls.non i).2 hx
      rw [hi'] at this; cases this
    | some x =>
      have := (h.sls.sal i a x hi' hx).2.2
      omega
theorem Hst.below {w0 w w' : World} {X X' : Ad} {H : Hs} (h : Hst w w' X X') (k : Hm w base X H) (hb : Below base w0 w) (hB : base ≤ w.heap.size) : Below base w0 w' :=
  hb.trans ⟨h.chg.os, h.chg.tape, h.chg.output, h.chg.size, fun i hi => h.chg.block i (by omega) (fun e => by have := k.foot_base i e; omega)⟩
/-- The whole behind a step of nothing of it. -/
theorem Hm.below {w w' : World} {X : Ad} {H : Hs} (h : Hm w base X H) (hb : Below w.heap.size w w') : Hm w' base X H := by
  have c : Chg (fun k => w.heap.size ≤ k) w w' := Chg.of_below hb
  exact ⟨h.ha.below hb, h.mks.chg c (Elsw.all hb _), h.sls.chg c (Elsw.all hb _), h.b0, h.n0, h.ds⟩
/-- The whole behind a step of the accounts. -/
theorem Hm.acc {w w' : World} {X : Ad} {H : Hs} {l' : Ks} (h : Hm w base X H) (ha : Ha w' X.p X.pl X.bl H.g l' (.slice (some ⟨X.qm, 0, none⟩) H.g X.cm) (.slice (some ⟨X.qs, 0, none⟩) H.g H.g) H.now) (c : Chg (fun k => k = X.bl) w w') (e : l'.length = H.l.length) :
    Hm w' base X { H with l := l' } ∧ Hst w w' X X :=
  ⟨⟨ha, h.mks.chg c (Elsw.one h.ha.lg.row (by decide)), h.sls.chg c (Elsw.one h.ha.lg.row (by decide)), h.b0, h.n0, fun i x hx => by
      have := h.ds i x hx
      show _ ∧ _ = ((l'.length : Nat)) ∧ _ ∧ _ < ((l'.length : Nat) : Int)
      rw [e]; exact this⟩,
   ⟨⟨c.os, c.tape, c.output, c.size, fun k hk hn => c.block k hk (fun e => hn (Or.inr (Or.inl e)))⟩, fun k hk => Or.inl hk⟩⟩
theorem Ha.wide {w w' : World} {l' : Ks} (h : Ha w p pl bl g l mV sV now) (hl : Led.Lg w' pl bl g l') (c : Chg (fun k => k = bl) w w') (e : l'.length = l.length) : Ha w' p pl bl g l' mV sV now :=
  ⟨by rw [e]; exact h.blk.chg c h.ne, hl⟩

def payR (g : Nat) (l : Ks) (who : Int) (o : Oo) : Int × Ks := (Led.gate (Led.refE l.length o.a [who]) l (Led.inR l who.toNat 0 o.a))
theorem payR_len (g : Nat) (l : Ks) (who : Int) (o : Oo) : (payR g l who o).2.length = l.length := Led.gate_len inR_len
set_option maxRecDepth 100000 in
set_option maxHeartbeats 1000000 in
theorem pay_hs (w : World) (h : Ha w p pl bl g l mV sV now) (who : Int) (o : Oo) :
    Calls Tryz.prog 57 #[.pointer (some ⟨p, 0, none⟩), .int .i64 who, o.val] w fun e w' => e = .returned (.int .i64 (payR g l who o).1) ∧ Ha w' p pl bl g (payR g l who o).2 mV sV now ∧ Chg (fun k => k = bl) w w' := by
  obtain ⟨W0, hW0, O0, B0⟩ : ∃ W0, (w.alloc (.cells #[.int .i64 o.k, .int .i64 o.g, .int .i64 o.a, .int .i64 o.d, .int .i64 o.i, .float .f64 o.pr] 70)) = W0 ∧ Blk W0 w.heap.size #[.int .i64 o.k, .int .i64 o.g, .int .i64 o.a, .int .i64 o.d, .int .i64 o.i, .float .f64 o.pr] 70 ∧ Below w.heap.size w W0 := ⟨_, rfl, blk_new _ _ _ _ rfl, by go_grown⟩
  have c1 : W0.cell? ⟨p, 1, none⟩ = some (.pointer (some ⟨pl, 0, none⟩)) := (h.below B0).blk.cell rfl
  have hnp : p ≠ bl := (h.below B0).ne
  have hno : w.heap.size ≠ bl := by have := h.lg.row.lt; omega
  have r0 : W0.cell? ⟨w.heap.size, 2, none⟩ = some (.int .i64 o.a) := O0.cell rfl
  have HK : Hid (∀ wx, Led.Lg wx pl bl g l → _) := fun wx hx => Led.pay_calls wx hx who o.a _ rfl
  have HH : Hid _ := h
  have HH0 : Hid _ := h.below B0
  have HB0 : Hid _ := B0
  have HR : Hid (payR g l who o = (Led.gate (Led.refE l.length o.a [who]) l (Led.inR l who.toNat 0 o.a))) := rfl
  have HN : Hid _ := payR_len g l who o
  generalize payR g l who o = R at *
  unfold Oo.val
  clear h B0
  go_enter Tryz.func57, Tryz.ntmps57
  go_upto_region 1 with fail
  refine wp_region_held_drew (S := (fun wx => Chg (fun k => k = bl) W0 wx)) (by kernel_rfl) (Chg.of_below (Below.refl W0.heap.size W0) : Chg (fun k => k = bl) W0 W0).drew (fun hS => ?_)
  refine wpAnyH_take (i := 0) (v := .pointer (some ⟨p, 0, none⟩)) rfl (by kernel_rfl) (by kernel_rfl) (by kernel_rfl) (fun _ _ _ h => h) (Or.inl ⟨by kernel_rfl, fun w3 hS => by go_simp⟩) hS ?_
  refine wpAnyH_take (i := 1) (v := .pointer (some ⟨p, 0, none⟩)) rfl (by kernel_rfl) (by kernel_rfl) (by kernel_rfl) (fun _ _ _ h => h) (Or.inl ⟨by kernel_rfl, fun w3 hS => by go_simp⟩) hS ?_
  refine wpAnyH_take (i := 2) (v := .pointer (some ⟨p, 1, none⟩)) rfl (by kernel_rfl) (by kernel_rfl) (by kernel_rfl) (fun _ _ _ h => h) (Or.inl ⟨by kernel_rfl, fun w3 hS => by go_simp⟩) hS ?_
  refine wpAnyH_take (i := 3) (v := .pointer (some ⟨pl, 0, none⟩)) rfl (by kernel_rfl) (by kernel_rfl) (by kernel_rfl) (fun _ _ _ h => h) (Or.inl ⟨by kernel_rfl, fun w3 hS => by have e0 : w3.cell? ⟨p, 1, none⟩ = some (.pointer (some ⟨pl, 0, none⟩)) := Chg.cell hS c1 hnp; have f0 : w3.cell? ⟨w.heap.size, 2, none⟩ = some (.int .i64 o.a) := Chg.cell hS r0 hno; go_simp⟩) hS ?_
  refine wpAnyH_take (i := 4) (v := .int .i64 who) rfl (by kernel_rfl) (by kernel_rfl) (by kernel_rfl) (fun _ _ _ h => h) (Or.inl ⟨by kernel_rfl, fun w3 hS => by go_simp⟩) hS ?_
  refine wpAnyH_take (i := 5) (v := .pointer (some ⟨w.heap.size, 2, none⟩)) rfl (by kernel_rfl) (by kernel_rfl) (by kernel_rfl) (fun _ _ _ h => h) (Or.inl ⟨by kernel_rfl, fun w3 hS => by go_simp⟩) hS ?_
  refine wpAnyH_take (i := 6) (v := .int .i64 o.a) rfl (by kernel_rfl) (by kernel_rfl) (by kernel_rfl) (fun _ _ _ h => h) (Or.inl ⟨by kernel_rfl, fun w3 hS => by have e0 : w3.cell? ⟨p, 1, none⟩ = some (.pointer (some ⟨pl, 0, none⟩)) := Chg.cell hS c1 hnp; have f0 : w3.cell? ⟨w.heap.size, 2, none⟩ = some (.int .i64 o.a) := Chg.cell hS r0 hno; go_simp⟩) hS ?_
  refine wpAnyH_ready (rs := [7]) (by kernel_rfl) (by simp) ?_
  refine AllReadyH.cons rfl (fun K hK => ?_) AllReadyH.nil
  go_simp
  refine (HK.out _ HH0.out.lg.drew).mono ?_
  rintro e w2 ⟨rfl, L2, o2⟩
  have hC : Chg (fun k => k = bl) W0 w2 := ((Chg.of_below (Below.refl W0.heap.size W0) : Chg (fun k => k = bl) W0 W0).drew).trans (fun k hk => Or.inl hk) (Chg.of_off o2 rfl)
  refine hK.out _ _ hC (fun hS => ?_)
  clear hK
  refine wpAnyH_take (i := 8) (v := .int .i64 ((Led.gate (Led.refE l.length o.a [who]) l (Led.inR l who.toNat 0 o.a))).1) rfl (by kernel_rfl) (by kernel_rfl) (by kernel_rfl) (fun _ _ _ h => h) (Or.inl ⟨by kernel_rfl, fun w3 hS => by go_simp⟩) hS ?_
  refine wpAnyH_done (by kernel_rfl) ?_ _
  have hCC : Chg (fun k => k = bl) w w2 := (Chg.of_below HB0.out : Chg (fun k => k = bl) w W0).trans (fun k hk => Or.inl hk) hC
  go_wp2
  go_ret
  rw [HR.out]
  exact ⟨rfl, Ha.wide HH.out L2 hCC (by have := HN.out; rw [HR.out] at this; exact this), hCC⟩

def takeR (g : Nat) (l : Ks) (who : Int) (o : Oo) : Int × Ks := (Led.gate (Led.refE l.length o.a [who]) l (Led.outR l who.toNat 0 1 o.a))
theorem takeR_len (g : Nat) (l : Ks) (who : Int) (o : Oo) : (takeR g l who o).2.length = l.length := Led.gate_len outR_len
set_option maxRecDepth 100000 in
set_option maxHeartbeats 1000000 in
theorem take_hs (w : World) (h : Ha w p pl bl g l mV sV now) (who : Int) (o : Oo) :
    Calls Tryz.prog 58 #[.pointer (some ⟨p, 0, none⟩), .int .i64 who, o.val] w fun e w' => e = .returned (.int .i64 (takeR g l who o).1) ∧ Ha w' p pl bl g (takeR g l who o).2 mV sV now ∧ Chg (fun k => k = bl) w w' := by
  obtain ⟨W0, hW0, O0, B0⟩ : ∃ W0, (w.alloc (.cells #[.int .i64 o.k, .int .i64 o.g, .int .i64 o.a, .int .i64 o.d, .int .i64 o.i, .float .f64 o.pr] 70)) = W0 ∧ Blk W0 w.heap.size #[.int .i64 o.k, .int .i64 o.g, .int .i64 o.a, .int .i64 o.d, .int .i64 o.i, .float .f64 o.pr] 70 ∧ Below w.heap.size w W0 := ⟨_, rfl, blk_new _ _ _ _ rfl, by go_grown⟩
  have c1 : W0.cell? ⟨p, 1, none⟩ = some (.pointer (some ⟨pl, 0, none⟩)) := (h.below B0).blk.cell rfl
  have hnp : p ≠ bl := (h.below B0).ne
  have hno : w.heap.size ≠ bl := by have := h.lg.row.lt; omega
  have r0 : W0.cell? ⟨w.heap.size, 2, none⟩ = some (.int .i64 o.a) := O0.cell rfl
  have HK : Hid (∀ wx, Led.Lg wx pl bl g l → _) := fun wx hx => Led.take_calls wx hx who o.a _ rfl
  have HH : Hid _ := h
  have HH0 : Hid _ := h.below B0
  have HB0 : Hid _ := B0
  have HR : Hid (takeR g l who o = (Led.gate (Led.refE l.length o.a [who]) l (Led.outR l who.toNat 0 1 o.a))) := rfl
  have HN : Hid _ := takeR_len g l who o
  generalize takeR g l who o = R at *
  unfold Oo.val
  clear h B0
  go_enter Tryz.func58, Tryz.ntmps58
  go_upto_region 1 with fail
  refine wp_region_held_drew (S := (fun wx => Chg (fun k => k = bl) W0 wx)) (by kernel_rfl) (Chg.of_below (Below.refl W0.heap.size W0) : Chg (fun k => k = bl) W0 W0).drew (fun hS => ?_)
  refine wpAnyH_take (i := 0) (v := .pointer (some ⟨p, 0, none⟩)) rfl (by kernel_rfl) (by kernel_rfl) (by kernel_rfl) (fun _ _ _ h => h) (Or.inl ⟨by kernel_rfl, fun w3 hS => by go_simp⟩) hS ?_
  refine wpAnyH_take (i := 1) (v := .pointer (some ⟨p, 0, none⟩)) rfl (by kernel_rfl) (by kernel_rfl) (by kernel_rfl) (fun _ _ _ h => h) (Or.inl ⟨by kernel_rfl, fun w3 hS => by go_simp⟩) hS ?_
  refine wpAnyH_take (i := 2) (v := .pointer (some ⟨p, 1, none⟩)) rfl (by kernel_rfl) (by kernel_rfl) (by kernel_rfl) (fun _ _ _ h => h) (Or.inl ⟨by kernel_rfl, fun w3 hS => by go_simp⟩) hS ?_
  refine wpAnyH_take (i := 3) (v := .pointer (some ⟨pl, 0, none⟩)) rfl (by kernel_rfl) (by kernel_rfl) (by kernel_rfl) (fun _ _ _ h => h) (Or.inl ⟨by kernel_rfl, fun w3 hS => by have e0 : w3.cell? ⟨p, 1, none⟩ = some (.pointer (some ⟨pl, 0, none⟩)) := Chg.cell hS c1 hnp; have f0 : w3.cell? ⟨w.heap.size, 2, none⟩ = some (.int .i64 o.a) := Chg.cell hS r0 hno; go_simp⟩) hS ?_
  refine wpAnyH_take (i := 4) (v := .int .i64 who) rfl (by kernel_rfl) (by kernel_rfl) (by kernel_rfl) (fun _ _ _ h => h) (Or.inl ⟨by kernel_rfl, fun w3 hS => by go_simp⟩) hS ?_
  refine wpAnyH_take (i := 5) (v := .pointer (some ⟨w.heap.size, 2, none⟩)) rfl (by kernel_rfl) (by kernel_rfl) (by kernel_rfl) (fun _ _ _ h => h) (Or.inl ⟨by kernel_rfl, fun w3 hS => by go_simp⟩) hS ?_
  refine wpAnyH_take (i := 6) (v := .int .i64 o.a) rfl (by kernel_rfl) (by kernel_rfl) (by kernel_rfl) (fun _ _ _ h => h) (Or.inl ⟨by kernel_rfl, fun w3 hS => by have e0 : w3.cell? ⟨p, 1, none⟩ = some (.pointer (some ⟨pl, 0, none⟩)) := Chg.cell hS c1 hnp; have f0 : w3.cell? ⟨w.heap.size, 2, none⟩ = some (.int .i64 o.a) := Chg.cell hS r0 hno; go_simp⟩) hS ?_
  refine wpAnyH_ready (rs := [7]) (by kernel_rfl) (by simp) ?_
  refine AllReadyH.cons rfl (fun K hK => ?_) AllReadyH.nil
  go_simp
  refine (HK.out _ HH0.out.lg.drew).mono ?_
  rintro e w2 ⟨rfl, L2, o2⟩
  have hC : Chg (fun k => k = bl) W0 w2 := ((Chg.of_below (Below.refl W0.heap.size W0) : Chg (fun k => k = bl) W0 W0).drew).trans (fun k hk => Or.inl hk) (Chg.of_off o2 rfl)
  refine hK.out _ _ hC (fun hS => ?_)
  clear hK
  refine wpAnyH_take (i := 8) (v := .int .i64 ((Led.gate (Led.refE l.length o.a [who]) l (Led.outR l who.toNat 0 1 o.a))).1) rfl (by kernel_rfl) (by kernel_rfl) (by kernel_rfl) (fun _ _ _ h => h) (Or.inl ⟨by kernel_rfl, fun w3 hS => by go_simp⟩) hS ?_
  refine wpAnyH_done (by kernel_rfl) ?_ _
  have hCC : Chg (fun k => k = bl) w w2 := (Chg.of_below HB0.out : Chg (fun k => k = bl) w W0).trans (fun k hk => Or.inl hk) hC
  go_wp2
  go_ret
  rw [HR.out]
  exact ⟨rfl, Ha.wide HH.out L2 hCC (by have := HN.out; rw [HR.out] at this; exact this), hCC⟩

def storeR (g : Nat) (l : Ks) (who : Int) (o : Oo) : Int × Ks := (Led.gate (Led.refG g l.length o.g o.a [who]) l (Led.inR l who.toNat (2 + o.g.toNat) o.a))
theorem storeR_len (g : Nat) (l : Ks) (who : Int) (o : Oo) : (storeR g l who o).2.length = l.length := Led.gate_len inR_len
set_option maxRecDepth 100000 in
set_option maxHeartbeats 1000000 in
theorem store_hs (w : World) (h : Ha w p pl bl g l mV sV now) (who : Int) (o : Oo) :
    Calls Tryz.prog 59 #[.pointer (some ⟨p, 0, none⟩), .int .i64 who, o.val] w fun e w' => e = .returned (.int .i64 (storeR g l who o).1) ∧ Ha w' p pl bl g (storeR g l who o).2 mV sV now ∧ Chg (fun k => k = bl) w w' := by
  obtain ⟨W0, hW0, O0, B0⟩ : ∃ W0, (w.alloc (.cells #[.int .i64 o.k, .int .i64 o.g, .int .i64 o.a, .int .i64 o.d, .int .i64 o.i, .float .f64 o.pr] 70)) = W0 ∧ Blk W0 w.heap.size #[.int .i64 o.k, .int .i64 o.g, .int .i64 o.a, .int .i64 o.d, .int .i64 o.i, .float .f64 o.pr] 70 ∧ Below w.heap.size w W0 := ⟨_, rfl, blk_new _ _ _ _ rfl, by go_grown⟩
  have c1 : W0.cell? ⟨p, 1, none⟩ = some (.pointer (some ⟨pl, 0, none⟩)) := (h.below B0).blk.cell rfl
  have hnp : p ≠ bl := (h.below B0).ne
  have hno : w.heap.size ≠ bl := by have := h.lg.row.lt; omega
  have r0 : W0.cell? ⟨w.heap.size, 1, none⟩ = some (.int .i64 o.g) := O0.cell rfl
  have r1 : W0.cell? ⟨w.heap.size, 2, none⟩ = some (.int .i64 o.a) := O0.cell rfl
  have HK : Hid (∀ wx, Led.Lg wx pl bl g l → _) := fun wx hx => Led.store_calls wx hx who o.g o.a _ rfl
  have HH : Hid _ := h
  have HH0 : Hid _ := h.below B0
  have HB0 : Hid _ := B0
  have HR : Hid (storeR g l who o = (Led.gate (Led.refG g l.length o.g o.a [who]) l (Led.inR l who.toNat (2 + o.g.toNat) o.a))) := rfl
  have HN : Hid _ := storeR_len g l who o
  generalize storeR g l who o = R at *
  unfold Oo.val
  clear h B0
  go_enter Tryz.func59, Tryz.ntmps59
  go_upto_region 1 with fail
  refine wp_region_held_drew (S := (fun wx => Chg (fun k => k = bl) W0 wx)) (by kernel_rfl) (Chg.of_below (Below.refl W0.heap.size W0) : Chg (fun k => k = bl) W0 W0).drew (fun hS => ?_)
  refine wpAnyH_take (i := 0) (v := .pointer (some ⟨p, 0, none⟩)) rfl (by kernel_rfl) (by kernel_rfl) (by kernel_rfl) (fun _ _ _ h => h) (Or.inl ⟨by kernel_rfl, fun w3 hS => by go_simp⟩) hS ?_
  refine wpAnyH_take (i := 1) (v := .pointer (some ⟨p, 0, none⟩)) rfl (by kernel_rfl) (by kernel_rfl) (by kernel_rfl) (fun _ _ _ h => h) (Or.inl ⟨by kernel_rfl, fun w3 hS => by go_simp⟩) hS ?_
  refine wpAnyH_take (i := 2) (v := .pointer (some ⟨p, 1, none⟩)) rfl (by kernel_rfl) (by kernel_rfl) (by kernel_rfl) (fun _ _ _ h => h) (Or.inl ⟨by kernel_rfl, fun w3 hS => by go_simp⟩) hS ?_
  refine wpAnyH_take (i := 3) (v := .pointer (some ⟨pl, 0, none⟩)) rfl (by kernel_rfl) (by kernel_rfl) (by kernel_rfl) (fun _ _ _ h => h) (Or.inl ⟨by kernel_rfl, fun w3 hS => by have e0 : w3.cell? ⟨p, 1, none⟩ = some (.pointer (some ⟨pl, 0, none⟩)) := Chg.cell hS c1 hnp; have f0 : w3.cell? ⟨w.heap.size, 1, none⟩ = some (.int .i64 o.g) := Chg.cell hS r0 hno; have f1 : w3.cell? ⟨w.heap.size, 2, none⟩ = some (.int .i64 o.a) := Chg.cell hS r1 hno; go_simp⟩) hS ?_
  refine wpAnyH_take (i := 4) (v := .int .i64 who) rfl (by kernel_rfl) (by kernel_rfl) (by kernel_rfl) (fun _ _ _ h => h) (Or.inl ⟨by kernel_rfl, fun w3 hS => by go_simp⟩) hS ?_
  refine wpAnyH_take (i := 5) (v := .pointer (some ⟨w.heap.size, 1, none⟩)) rfl (by kernel_rfl) (by kernel_rfl) (by kernel_rfl) (fun _ _ _ h => h) (Or.inl ⟨by kernel_rfl, fun w3 hS => by go_simp⟩) hS ?_
  refine wpAnyH_take (i := 6) (v := .int .i64 o.g) rfl (by kernel_rfl) (by kernel_rfl) (by kernel_rfl) (fun _ _ _ h => h) (Or.inl ⟨by kernel_rfl, fun w3 hS => by have e0 : w3.cell? ⟨p, 1, none⟩ = some (.pointer (some ⟨pl, 0, none⟩)) := Chg.cell hS c1 hnp; have f0 : w3.cell? ⟨w.heap.size, 1, none⟩ = some (.int .i64 o.g) := Chg.cell hS r0 hno; have f1 : w3.cell? ⟨w.heap.size, 2, none⟩ = some (.int .i64 o.a) := Chg.cell hS r1 hno; go_simp⟩) hS ?_
  refine wpAnyH_take (i := 7) (v := .pointer (some ⟨w.heap.size, 2, none⟩)) rfl (by kernel_rfl) (by kernel_rfl) (by kernel_rfl) (fun _ _ _ h => h) (Or.inl ⟨by kernel_rfl, fun w3 hS => by go_simp⟩) hS ?_
  refine wpAnyH_take (i := 8) (v := .int .i64 o.a) rfl (by kernel_rfl) (by kernel_rfl) (by kernel_rfl) (fun _ _ _ h => h) (Or.inl ⟨by kernel_rfl, fun w3 hS => by have e0 : w3.cell? ⟨p, 1, none⟩ = some (.pointer (some ⟨pl, 0, none⟩)) := Chg.cell hS c1 hnp; have f0 : w3.cell? ⟨w.heap.size, 1, none⟩ = some (.int .i64 o.g) := Chg.cell hS r0 hno; have f1 : w3.cell? ⟨w.heap.size, 2, none⟩ = some (.int .i64 o.a) := Chg.cell hS r1 hno; go_simp⟩) hS ?_
  refine wpAnyH_ready (rs := [9]) (by kernel_rfl) (by simp) ?_
  refine AllReadyH.cons rfl (fun K hK => ?_) AllReadyH.nil
  go_simp
  refine (HK.out _ HH0.out.lg.drew).mono ?_
  rintro e w2 ⟨rfl, L2, o2⟩
  have hC : Chg (fun k => k = bl) W0 w2 := ((Chg.of_below (Below.refl W0.heap.size W0) : Chg (fun k => k = bl) W0 W0).drew).trans (fun k hk => Or.inl hk) (Chg.of_off o2 rfl)
  refine hK.out _ _ hC (fun hS => ?_)
  clear hK
  refine wpAnyH_take (i := 10) (v := .int .i64 ((Led.gate (Led.refG g l.length o.g o.a [who]) l (Led.inR l who.toNat (2 + o.g.toNat) o.a))).1) rfl (by kernel_rfl) (by kernel_rfl) (by kernel_rfl) (fun _ _ _ h => h) (Or.inl ⟨by kernel_rfl, fun w3 hS => by go_simp⟩) hS ?_
  refine wpAnyH_done (by kernel_rfl) ?_ _
  have hCC : Chg (fun k => k = bl) w w2 := (Chg.of_below HB0.out : Chg (fun k => k = bl) w W0).trans (fun k hk => Or.inl hk) hC
  go_wp2
  go_ret
  rw [HR.out]
  exact ⟨rfl, Ha.wide HH.out L2 hCC (by have := HN.out; rw [HR.out] at this; exact this), hCC⟩

def fetchR (g : Nat) (l : Ks) (who : Int) (o : Oo) : Int × Ks := (Led.gate (Led.refG g l.length o.g o.a [who]) l (Led.outR l who.toNat (2 + o.g.toNat) (6 + o.g.toNat) o.a))
theorem fetchR_len (g : Nat) (l : Ks) (who : Int) (o : Oo) : (fetchR g l who o).2.length = l.length := Led.gate_len outR_len
set_option maxRecDepth 100000 in
set_option maxHeartbeats 1000000 in
theorem fetch_hs (w : World) (h : Ha w p pl bl g l mV sV now) (who : Int) (o : Oo) :
    Calls Tryz.prog 60 #[.pointer (some ⟨p, 0, none⟩), .int .i64 who, o.val] w fun e w' => e = .returned (.int .i64 (fetchR g l who o).1) ∧ Ha w' p pl bl g (fetchR g l who o).2 mV sV now ∧ Chg (fun k => k = bl) w w' := by
  obtain ⟨W0, hW0, O0, B0⟩ : ∃ W0, (w.alloc (.cells #[.int .i64 o.k, .int .i64 o.g, .int .i64 o.a, .int .i64 o.d, .int .i64 o.i, .float .f64 o.pr] 70)) = W0 ∧ Blk W0 w.heap.size #[.int .i64 o.k, .int .i64 o.g, .int .i64 o.a, .int .i64 o.d, .int .i64 o.i, .float .f64 o.pr] 70 ∧ Below w.heap.size w W0 := ⟨_, rfl, blk_new _ _ _ _ rfl, by go_grown⟩
  have c1 : W0.cell? ⟨p, 1, none⟩ = some (.pointer (some ⟨pl, 0, none⟩)) := (h.below B0).blk.cell rfl
  have hnp : p ≠ bl := (h.below B0).ne
  have hno : w.heap.size ≠ bl := by have := h.lg.row.lt; omega
  have r0 : W0.cell? ⟨w.heap.size, 1, none⟩ = some (.int .i64 o.g) := O0.cell rfl
  have r1 : W0.cell? ⟨w.heap.size, 2, none⟩ = some (.int .i64 o.a) := O0.cell rfl
  have HK : Hid (∀ wx, Led.Lg wx pl bl g l → _) := fun wx hx => Led.fetch_calls wx hx who o.g o.a _ rfl
  have HH : Hid _ := h
  have HH0 : Hid _ := h.below B0
  have HB0 : Hid _ := B0
  have HR : Hid (fetchR g l who o = (Led.gate (Led.refG g l.length o.g o.a [who]) l (Led.outR l who.toNat (2 + o.g.toNat) (6 + o.g.toNat) o.a))) := rfl
  have HN : Hid _ := fetchR_len g l who o
  generalize fetchR g l who o = R at *
  unfold Oo.val
  clear h B0
  go_enter Tryz.func60, Tryz.ntmps60
  go_upto_region 1 with fail
  refine wp_region_held_drew (S := (fun wx => Chg (fun k => k = bl) W0 wx)) (by kernel_rfl) (Chg.of_below (Below.refl W0.heap.size W0) : Chg (fun k => k = bl) W0 W0).drew (fun hS => ?_)
  refine wpAnyH_take (i := 0) (v := .pointer (some ⟨p, 0, none⟩)) rfl (by kernel_rfl) (by kernel_rfl) (by kernel_rfl) (fun _ _ _ h => h) (Or.inl ⟨by kernel_rfl, fun w3 hS => by go_simp⟩) hS ?_
  refine wpAnyH_take (i := 1) (v := .pointer (some ⟨p, 0, none⟩)) rfl (by kernel_rfl) (by kernel_rfl) (by kernel_rfl) (fun _ _ _ h => h) (Or.inl ⟨by kernel_rfl, fun w3 hS => by go_simp⟩) hS ?_
  refine wpAnyH_take (i := 2) (v := .pointer (some ⟨p, 1, none⟩)) rfl (by kernel_rfl) (by kernel_rfl) (by kernel_rfl) (fun _ _ _ h => h) (Or.inl ⟨by kernel_rfl, fun w3 hS => by go_simp⟩) hS ?_
  refine wpAnyH_take (i := 3) (v := .pointer (some ⟨pl, 0, none⟩)) rfl (by kernel_rfl) (by kernel_rfl) (by kernel_rfl) (fun _ _ _ h => h) (Or.inl ⟨by kernel_rfl, fun w3 hS => by have e0 : w3.cell? ⟨p, 1, none⟩ = some (.pointer (some ⟨pl, 0, none⟩)) := Chg.cell hS c1 hnp; have f0 : w3.cell? ⟨w.heap.size, 1, none⟩ = some (.int .i64 o.g) := Chg.cell hS r0 hno; have f1 : w3.cell? ⟨w.heap.size, 2, none⟩ = some (.int .i64 o.a) := Chg.cell hS r1 hno; go_simp⟩) hS ?_
  refine wpAnyH_take (i := 4) (v := .int .i64 who) rfl (by kernel_rfl) (by kernel_rfl) (by kernel_rfl) (fun _ _ _ h => h) (Or.inl ⟨by kernel_rfl, fun w3 hS => by go_simp⟩) hS ?_
  refine wpAnyH_take (i := 5) (v := .pointer (some ⟨w.heap.size, 1, none⟩)) rfl (by kernel_rfl) (by kernel_rfl) (by kernel_rfl) (fun _ _ _ h => h) (Or.inl ⟨by kernel_rfl, fun w3 hS => by go_simp⟩) hS ?_
  refine wpAnyH_take (i := 6) (v := .int .i64 o.g) rfl (by kernel_rfl) (by kernel_rfl) (by kernel_rfl) (fun _ _ _ h => h) (Or.inl ⟨by kernel_rfl, fun w3 hS => by have e0 : w3.cell? ⟨p, 1, none⟩ = some (.pointer (some ⟨pl, 0, none⟩)) := Chg.cell hS c1 hnp; have f0 : w3.cell? ⟨w.heap.size, 1, none⟩ = some (.int .i64 o.g) := Chg.cell hS r0 hno; have f1 : w3.cell? ⟨w.heap.size, 2, none⟩ = some (.int .i64 o.a) := Chg.cell hS r1 hno; go_simp⟩) hS ?_
  refine wpAnyH_take (i := 7) (v := .pointer (some ⟨w.heap.size, 2, none⟩)) rfl (by kernel_rfl) (by kernel_rfl) (by kernel_rfl) (fun _ _ _ h => h) (Or.inl ⟨by kernel_rfl, fun w3 hS => by go_simp⟩) hS ?_
  refine wpAnyH_take (i := 8) (v := .int .i64 o.a) rfl (by kernel_rfl) (by kernel_rfl) (by kernel_rfl) (fun _ _ _ h => h) (Or.inl ⟨by kernel_rfl, fun w3 hS => by have e0 : w3.cell? ⟨p, 1, none⟩ = some (.pointer (some ⟨pl, 0, none⟩)) := Chg.cell hS c1 hnp; have f0 : w3.cell? ⟨w.heap.size, 1, none⟩ = some (.int .i64 o.g) := Chg.cell hS r0 hno; have f1 : w3.cell? ⟨w.heap.size, 2, none⟩ = some (.int .i64 o.a) := Chg.cell hS r1 hno; go_simp⟩) hS ?_
  refine wpAnyH_ready (rs := [9]) (by kernel_rfl) (by simp) ?_
  refine AllReadyH.cons rfl (fun K hK => ?_) AllReadyH.nil
  go_simp
  refine (HK.out _ HH0.out.lg.drew).mono ?_
  rintro e w2 ⟨rfl, L2, o2⟩
  have hC : Chg (fun k => k = bl) W0 w2 := ((Chg.of_below (Below.refl W0.heap.size W0) : Chg (fun k => k = bl) W0 W0).drew).trans (fun k hk => Or.inl hk) (Chg.of_off o2 rfl)
  refine hK.out _ _ hC (fun hS => ?_)
  clear hK
  refine wpAnyH_take (i := 10) (v := .int .i64 ((Led.gate (Led.refG g l.length o.g o.a [who]) l (Led.outR l who.toNat (2 + o.g.toNat) (6 + o.g.toNat) o.a))).1) rfl (by kernel_rfl) (by kernel_rfl) (by kernel_rfl) (fun _ _ _ h => h) (Or.inl ⟨by kernel_rfl, fun w3 hS => by go_simp⟩) hS ?_
  refine wpAnyH_done (by kernel_rfl) ?_ _
  have hCC : Chg (fun k => k = bl) w w2 := (Chg.of_below HB0.out : Chg (fun k => k = bl) w W0).trans (fun k hk => Or.inl hk) hC
  go_wp2
  go_ret
  rw [HR.out]
  exact ⟨rfl, Ha.wide HH.out L2 hCC (by have := HN.out; rw [HR.out] at this; exact this), hCC⟩


set_option maxRecDepth 100000 in
theorem now_hs (w : World) (h : Ha w p pl bl g l mV sV now) : Calls Tryz.prog 9 #[.pointer (some ⟨p, 0, none⟩)] w fun e w' => e = .returned (.int .i64 now) ∧ w' = w := by
  have c4 : w.cell? ⟨p, 4, none⟩ = some (.int .i64 now) := h.blk.cell rfl
  have hma := made_hs w h
  go_enter Tryz.func9, Tryz.ntmps9
  go_wp2_with fail
  refine hma.mono ?_
  rintro e w1 ⟨rfl, rfl⟩
  go_wp2
  go_ret
  exact ⟨rfl, rfl⟩
set_option maxRecDepth 100000 in
set_option maxHeartbeats 1000000 in
theorem market_hs (w : World) {X : Ad} {H : Hs} (h : Hm w base X H) (i : Nat) (hi : i < H.g) {B : Cal.Bo} (hB : H.ms[i]? = some B) :
    Calls Tryz.prog 10 #[.pointer (some ⟨X.p, 0, none⟩), .int .i64 i] w fun e w' => ∃ v', e = .returned v' ∧ w'.ownsRow w.heap.size 105 6 v' B.os.length (Cal.odL B.os) ∧ Below w.heap.size w w' := by
  have c2 : w.cell? ⟨X.p, 2, none⟩ = some (.slice (some ⟨X.qm, 0, none⟩) H.g X.cm) := h.ha.blk.cell rfl
  have hma := made_hs w h.ha
  have HHS : Hid _ := has_hs w h.ha i
  have hg4 := h.ha.lg.inv.g4
  rw [decide_eq_true (show 0 ≤ (i : Int) ∧ (i : Int) ≤ (H.g : Int) - 1 by omega)] at HHS
  obtain ⟨b, hb⟩ := get_both hB (h.mks.nb.trans h.mks.nm.symm)
  obtain ⟨cs, hr, hr2⟩ := h.mks.row
  have cq : w.cell? ⟨X.qm, i, none⟩ = some (.pointer (some ⟨b.1, 0, none⟩)) := hr.cell (hr2 i b hb)
  have HO : Hid _ := Cal.orders_calls w (h.mks.bk i b B hb hB)
  have hii : (i : Int) < (H.g : Int) := by omega
  clear h hr hr2 hb hB
  go_enter Tryz.func10, Tryz.ntmps10
  go_wp2_with fail
  refine hma.mono ?_
  rintro e w1 ⟨rfl, rfl⟩
  go_wp2_with fail
  refine Calls.mono HHS.out ?_
  rintro e w2 ⟨rfl, rfl⟩
  go_wp2_with fail
  refine Calls.mono HO.out ?_
  rintro e w3 ⟨v', rfl, O3, b3⟩
  go_wp2
  go_ret
  exact ⟨_, rfl, O3, b3⟩
end Go.Proofs.YtgofjheoebabeaaGreatDoor
