/- The example of chapter 9, as plain data. -/
import Derived.Test.YtpekfpfhonechaaGreatWa38
import Derived.Test.YtpekfpfhonechaaGreatWa39
import Derived.Test.YtpekfpfhonechaaGreatWa40
import Derived.Deep.RegionHeld3
import Derived.Deep.RegionHeld
import Derived.Test.YtpekfpfhonechaaGreatWa36
import Derived.Test.YtpekfpfhonechaaGreatWa10
import Derived.Test.YtpekfpfhonechaaGreatWa11
import Derived.Deep.DeepCutAuto
import Derived.Deep.CutBlock
namespace Go.Proofs.YtpekfpfhonechaaGreat
open Go.RowKit
set_option linter.unusedSimpArgs false
set_option linter.unusedVariables false
variable {base : Nat}

def accH (f : Nat → Ks → Int → Oo → Int × Ks) (H : Hs) (who : Int) (o : Oo) : Int × Hs := ((f H.g H.l who o).1, { H with l := (f H.g H.l who o).2 })
theorem pay_deed (w : World) {X : Ad} {H : Hs} (h : Hm w base X H) (who : Int) (o : Oo) : Calls Tryz.prog 55 #[.pointer (some ⟨X.p, 0, none⟩), .int .i64 who, o.val] w (Deed base X w (accH payR H who o)) :=
  (pay_hs w h.ha who o).mono fun e w' ⟨h1, h2, h3⟩ => ⟨h1, X, (h.acc h2 h3 (payR_len _ _ _ _)).1, (h.acc h2 h3 (payR_len _ _ _ _)).2, rfl⟩
theorem store_deed (w : World) {X : Ad} {H : Hs} (h : Hm w base X H) (who : Int) (o : Oo) : Calls Tryz.prog 57 #[.pointer (some ⟨X.p, 0, none⟩), .int .i64 who, o.val] w (Deed base X w (accH storeR H who o)) :=
  (store_hs w h.ha who o).mono fun e w' ⟨h1, h2, h3⟩ => ⟨h1, X, (h.acc h2 h3 (storeR_len _ _ _ _)).1, (h.acc h2 h3 (storeR_len _ _ _ _)).2, rfl⟩
theorem take_deed (w : World) {X : Ad} {H : Hs} (h : Hm w base X H) (who : Int) (o : Oo) : Calls Tryz.prog 56 #[.pointer (some ⟨X.p, 0, none⟩), .int .i64 who, o.val] w (Deed base X w (accH takeR H who o)) :=
  (take_hs w h.ha who o).mono fun e w' ⟨h1, h2, h3⟩ => ⟨h1, X, (h.acc h2 h3 (takeR_len _ _ _ _)).1, (h.acc h2 h3 (takeR_len _ _ _ _)).2, rfl⟩
theorem fetch_deed (w : World) {X : Ad} {H : Hs} (h : Hm w base X H) (who : Int) (o : Oo) : Calls Tryz.prog 58 #[.pointer (some ⟨X.p, 0, none⟩), .int .i64 who, o.val] w (Deed base X w (accH fetchR H who o)) :=
  (fetch_hs w h.ha who o).mono fun e w' ⟨h1, h2, h3⟩ => ⟨h1, X, (h.acc h2 h3 (fetchR_len _ _ _ _)).1, (h.acc h2 h3 (fetchR_len _ _ _ _)).2, rfl⟩
def doneS (who stamp : Int) (r : Int × Hs) (V : Int) : Hs := { r.2 with l := (Led.markR r.2.l who stamp (layR r.1 V)).2 }
end Go.Proofs.YtpekfpfhonechaaGreat

namespace Go.Proofs.YtpekfpfhonechaaGreat
open Go.RowKit
set_option linter.unusedSimpArgs false
set_option linter.unusedVariables false
variable {p pl bl g base : Nat} {l : Ks} {mV sV : Value} {now : Int}

set_option maxRecDepth 100000 in
set_option maxHeartbeats 1000000 in
theorem account_hs (w : World) (h : Ha w p pl bl g l mV sV now) (who : Int) (h0 : 0 ≤ who) (h1 : who < l.length) :
    Calls Tryz.prog 18 #[.pointer (some ⟨p, 0, none⟩), .int .i64 who] w fun e w' => e = .returned (.tuple #[Led.accV (Led.kAt l who.toNat), .bool true]) ∧ Below w.heap.size w w' := by
  obtain ⟨W0, hW0, X0, B0⟩ : ∃ W0, (w.alloc (.cells #[.int .i64 0, .int .i64 0, .int .i64 0, .int .i64 0, .int .i64 0, .int .i64 0, .int .i64 0, .int .i64 0, .int .i64 0, .int .i64 0] 33)) = W0 ∧ Blk W0 w.heap.size (Led.accA Led.Kt.zero) 33 ∧ Below w.heap.size w W0 := ⟨_, rfl, blk_new _ _ _ _ rfl, by go_grown⟩
  have hh := h.below B0
  have hma := made_hs W0 hh
  have c1 : W0.cell? ⟨p, 1, none⟩ = some (.pointer (some ⟨pl, 0, none⟩)) := hh.blk.cell rfl
  have HC : Hid _ := Led.account_ok W0 hh.lg who h0 h1
  have HB : Hid _ := B0
  have HX0 : Hid _ := X0
  generalize Led.kAt l who.toNat = kk at *
  unfold Led.accV at HC ⊢
  have X0' := X0
  clear h hh B0 X0
  go_enter Tryz.func18, Tryz.ntmps18
  go_wp2_with fail
  refine hma.mono ?_
  rintro e w1 ⟨rfl, rfl⟩
  go_wp2_with fail
  refine Calls.mono HC.out ?_
  rintro e w2 ⟨rfl, b2⟩
  have X2 : Blk w2 w.heap.size (Led.accA Led.Kt.zero) 33 := X0'.below b2
  obtain ⟨W3, hW3, X3, B3⟩ : ∃ W3, w2.setRow w.heap.size (Led.accA kk) = W3 ∧ Blk W3 w.heap.size (Led.accA kk) 33 ∧ Below w.heap.size w W3 := ⟨_, rfl, Blk.setRow X2 _, below_setRow (HB.out.trans (b2.mono HB.out.size)) _ _ (Nat.le_refl _)⟩
  have q0 : W3.cell? ⟨w.heap.size, 0, none⟩ = some (.int .i64 (kk.n 0)) := X3.cell rfl
  have q1 : W3.cell? ⟨w.heap.size, 1, none⟩ = some (.int .i64 (kk.n 1)) := X3.cell rfl
  have q2 : W3.cell? ⟨w.heap.size, 2, none⟩ = some (.int .i64 (kk.n 2)) := X3.cell rfl
  have q3 : W3.cell? ⟨w.heap.size, 3, none⟩ = some (.int .i64 (kk.n 3)) := X3.cell rfl
  have q4 : W3.cell? ⟨w.heap.size, 4, none⟩ = some (.int .i64 (kk.n 4)) := X3.cell rfl
  have q5 : W3.cell? ⟨w.heap.size, 5, none⟩ = some (.int .i64 (kk.n 5)) := X3.cell rfl
  have q6 : W3.cell? ⟨w.heap.size, 6, none⟩ = some (.int .i64 (kk.n 6)) := X3.cell rfl
  have q7 : W3.cell? ⟨w.heap.size, 7, none⟩ = some (.int .i64 (kk.n 7)) := X3.cell rfl
  have q8 : W3.cell? ⟨w.heap.size, 8, none⟩ = some (.int .i64 (kk.n 8)) := X3.cell rfl
  have q9 : W3.cell? ⟨w.heap.size, 9, none⟩ = some (.int .i64 (kk.n 9)) := X3.cell rfl
  have HB3 : Hid _ := B3
  clear X3 B3 b2 X0'
  go_wp2_with ((with_reducible refine st_row (ty := 33) (cs' := Led.accA kk) X2 (Led.accA_info _) (Led.accA_same _ _) (Led.accA_one _) hW3 ?_ ?_ ?_); rfl; rfl)
  refine bodyPost_ret (v := .tuple #[.agg (Led.accA kk), .bool true]) (by simp [results, Tryz.results18, go_sem, q0, q1, q2, q3, q4, q5, q6, q7, q8, q9]; rfl) rfl ⟨rfl, HB3.out⟩
end Go.Proofs.YtpekfpfhonechaaGreat

namespace Go.Proofs.YtpekfpfhonechaaGreat
open Go.RowKit
set_option linter.unusedSimpArgs false
set_option linter.unusedVariables false
variable {base : Nat}

theorem rdF_nz (s : ByteArray) (a : Nat) : ∀ (k i n : Nat) (e : Int), rdF s a k i n = .error e → e ≠ 0
  | 0, i, n, e, h => by unfold rdF at h; cases h; decide
  | k + 1, i, n, e, h => by
    unfold rdF at h
    split at h
    · split at h
      · exact rdF_nz s a k _ _ e h
      · split at h
        · cases h; decide
        · cases h
    · cases h; decide
theorem rdInt_nz {s : ByteArray} {a : Nat} {e : Int} (h : rdInt s a = .error e) : e ≠ 0 := rdF_nz s a 8 0 0 e h
theorem ofOpR_nz {s : ByteArray} {e : Int} (h : ofOpR s = .error e) : e ≠ 0 := by
  unfold ofOpR at h
  split at h
  · cases h; decide
  · cases hr : rdOp s 0 with
    | ok x =>
      rw [hr] at h
      simp only at h
      split at h
      · cases h; decide
      · cases h
    | error e1 =>
      rw [hr] at h
      cases h
      unfold rdOp at hr
      cases h0 : rdInt s 0 with
      | error e => rw [h0] at hr; cases hr; exact rdInt_nz h0
      | ok y0 =>
        obtain ⟨n0, a0⟩ := y0
        rw [h0] at hr
        simp only [rdOp1] at hr
        cases h1 : rdInt s a0 with
        | error e => rw [h1] at hr; cases hr; exact rdInt_nz h1
        | ok y1 =>
          obtain ⟨n1, a1⟩ := y1
          rw [h1] at hr
          simp only [rdOp2] at hr
          cases h2 : rdInt s a1 with
          | error e => rw [h2] at hr; cases hr; exact rdInt_nz h2
          | ok y2 =>
            obtain ⟨n2, a2⟩ := y2
            rw [h2] at hr
            simp only [rdOp3] at hr
            cases h3 : rdInt s a2 with
            | error e => rw [h3] at hr; cases hr; exact rdInt_nz h3
            | ok y3 =>
              obtain ⟨n3, a3⟩ := y3
              rw [h3] at hr
              simp only [rdOp4] at hr
              cases h4 : rdInt s a3 with
              | error e => rw [h4] at hr; cases hr; exact rdInt_nz h4
              | ok y4 =>
                obtain ⟨n4, a4⟩ := y4
                rw [h4] at hr
                simp only [rdOp5, rd8] at hr
                split at hr
                · rename_i hp
                  split at hp
                  · cases hp; cases hr; decide
                  · cases hp
                · cases hr
set_option maxRecDepth 100000 in
set_option maxHeartbeats 4000000 in
theorem request_bad (w : World) {X : Ad} {H : Hs} (h : Hm w base X H) (who : Int) (op : ByteArray) (hs : op.size ≤ maxLen) (o : Oo) (er : Int) (ho : opAns (ofOpR op) = #[o.val, .int .i64 er])
    (hb : ¬ er = 0 ∨ vget deedsKV o.k = none) :
    Calls Tryz.prog 35 #[.pointer (some ⟨X.p, 0, none⟩), .int .i64 who, .string op] w fun e w' => e = .returned (.tuple #[.int .i64 90, .int .i64 0]) ∧ Below w.heap.size w w' := by
  have HOf : Hid _ := ofOp_calls op w hs
  rw [ho] at HOf
  have HDe : Hid _ := fun wx => deeds_hs wx
  have hz0 : ∀ w, (zeroValue 118).run Tryz.prog w = .ok .nilFunc w := fun _ => by kernel_rfl
  clear h ho
  obtain ⟨ok, og, oa, od, oi, opr⟩ := o
  obtain ⟨LV, hLV⟩ : ∃ LV, vgetZ .nilFunc deedsKV ok = LV := ⟨_, rfl⟩
  obtain ⟨lb, hlb⟩ : ∃ lb, (vget deedsKV ok).isSome = lb := ⟨_, rfl⟩
  have hbb : ¬ er = 0 ∨ lb = false := by
    rcases hb with h | h
    · exact Or.inl h
    · refine Or.inr ?_
      simp only at h
      rw [← hlb, h]; rfl
  have HLV : Hid _ := And.intro hLV hlb
  simp only [Oo.val] at HOf
  clear hb hLV hlb
  go_enter Tryz.func35, Tryz.ntmps35
  go_wp2_with fail
  refine Calls.mono HOf.out ?_
  rintro e w1 ⟨rfl, b1⟩
  obtain ⟨W1, hW1, X1, B1⟩ : ∃ W1, (w1.alloc (.cells #[.int .i64 ok, .int .i64 og, .int .i64 oa, .int .i64 od, .int .i64 oi, .float .f64 opr] 39)) = W1 ∧ Blk W1 w1.heap.size #[.int .i64 ok, .int .i64 og, .int .i64 oa, .int .i64 od, .int .i64 oi, .float .f64 opr] 39 ∧ Below w1.heap.size w1 W1 := ⟨_, rfl, blk_new _ _ _ _ rfl, by go_grown⟩
  have hz1 := b1.size
  have HB1 : Hid (Below w.heap.size w W1) := b1.trans (B1.mono hz1)
  have x0 : W1.cell? ⟨w1.heap.size, 0, none⟩ = some (.int .i64 ok) := X1.cell rfl
  clear X1 B1 b1
  go_upto_region 2 with fail
  refine wp_region_held_drew (S := (fun wx => wx.cell? ⟨w1.heap.size, 0, none⟩ = some (.int .i64 ok))) (by kernel_rfl) x0 (fun hS => ?_)
  refine tkG (i := 1) (v := .pointer (some ⟨w1.heap.size, 0, none⟩)) rfl hS ?_
  refine tkH (i := 2) (v := .int .i64 ok) rfl (fun w3 hS => by have e0 := hS; go_simp) hS ?_
  refine wpAnyH_ready (rs := [0]) (by kernel_rfl) (by simp) ?_
  refine AllReadyH.cons rfl (fun K hK => ?_) AllReadyH.nil
  go_simp
  refine (HDe.out _).mono ?_
  rintro e w2 ⟨rfl, M2, b2⟩
  have M2' : MapAt w2 (some W1.heap.size) deedsKV := M2
  have hlk : (Instr.lookup 120 (.map (some W1.heap.size)) (.int .i64 ok) true).run Tryz.prog w2 = .ok (.tuple #[LV, .bool lb]) w2 := by
    rw [run_look Tryz.underlying120 Tryz.underlying3 hz0 M2' ok, HLV.out.1, HLV.out.2]
  have b2' : Below W1.heap.size W1 w2 := ⟨b2.os, b2.tape, b2.output, b2.size, b2.block⟩
  have HB2 : Hid (Below w.heap.size w w2) := HB1.out.trans (b2'.mono HB1.out.size)
  have y0 : w2.cell? ⟨w1.heap.size, 0, none⟩ = some (.int .i64 ok) := (b2'.cell (p := ⟨w1.heap.size, 0, none⟩) (World.block_lt_of_cell? _ _ x0)).trans x0
  refine hK.out _ _ y0 (fun hS => ?_)
  clear hK
  refine wpAnyH_ready (rs := [3]) (by kernel_rfl) (by simp) ?_
  refine AllReadyH.cons rfl (fun K hK => ?_) AllReadyH.nil
  go_simp
  refine hK.out _ _ y0 (fun hS => ?_)
  clear hK
  refine tkG (i := 4) (v := .tuple #[LV, .bool lb]) rfl hS ?_
  refine tkG (i := 5) (v := LV) rfl hS ?_
  refine tkG (i := 6) (v := .bool lb) rfl hS ?_
  refine tkG (i := 7) (v := LV) rfl hS ?_
  refine tkG (i := 8) (v := .bool lb) rfl hS ?_
  refine wpAnyH_done (by kernel_rfl) ?_ _
  clear hlk M2 M2' b2 b2' hz0 x0 y0 HLV HDe HOf hW1
  by_cases he : er = 0
  · have hl : lb = false := by
      rcases hbb with h | h
      · exact absurd he h
      · exact h
    subst he hl
    clear hbb
    go_wp2
    refine bodyPost_ret (by simp [results, Tryz.results35, go_sem]; rfl) rfl ?_
    exact ⟨rfl, HB2.out⟩
  · have hd : (er == 0) = false := by simpa using he
    have hd2 : (er != 0) = true := by simp [he]
    cases lb
    all_goals clear hbb he
    all_goals go_wp2
    all_goals refine bodyPost_ret (by simp [results, Tryz.results35, go_sem]; rfl) rfl ?_
    all_goals exact ⟨rfl, HB2.out⟩
end Go.Proofs.YtpekfpfhonechaaGreat

namespace Go.Proofs.YtpekfpfhonechaaGreat
open Go.RowKit
set_option linter.unusedSimpArgs false
set_option linter.unusedVariables false
variable {base g qs : Nat} {sl : List (Option (Nat × Nat × Nat))} {ss : List (Option (Clo.Au × Int))}

theorem Sls.step {w w' : World} {i : Nat} {a : Nat × Nat × Nat} {x : Clo.Au × Int} {A' : Clo.Au} (h : Sls w base g qs sl ss) (hi : sl[i]? = some (some a)) (hx : ss[i]? = some (some x)) (hl : Clo.Lc w' a.2.1 a.2.2 A') (ho : Clo.Ofc a.2.1 a.2.2 w w') : Sls w' base g qs sl (ss.set i (some (A', x.2))) := by
  obtain ⟨k1, k2, k3⟩ := h.sal i a x hi hx
  have hil := (List.getElem?_eq_some_iff.1 hi).1
  have hsl := (List.getElem?_eq_some_iff.1 hx).1
  have c : Chg (fun k => k = a.2.1 ∨ k = a.2.2) w w' := Chg.of_ofc ho (Or.inl rfl) (Or.inr rfl)
  have he := fun ts (h1 : 80 ∉ ts) (h2 : 83 ∉ ts) => Elsw.two (ts := ts) k2.blk h1 k2.row h2
  refine ⟨h.ns, by simpa using h.nn, h.row.chg c (he [57] (by decide) (by decide) _ _ _ h.row (by simp)), fun j => ?_, fun j b y hb hy => ?_, h.dis⟩
  · rw [List.getElem?_set]
    split
    · next e =>
      subst e
      rw [hi]
      simp [hsl]
    · exact h.non j
  · rw [List.getElem?_set] at hy
    split at hy
    · next e =>
      subst e
      simp only [hsl, if_true, Option.some.injEq] at hy
      subst hy
      rw [hi] at hb
      simp only [Option.some.injEq] at hb
      subst hb
      exact ⟨k1.chg c (he [66] (by decide) (by decide) _ _ _ k1 (by simp)), hl, k3⟩
    · next e =>
      obtain ⟨m1, m2, m3⟩ := h.sal j b y hb hy
      have hd := h.dis i j a b hi hb e
      exact ⟨m1.chg c (he [66] (by decide) (by decide) _ _ _ m1 (by simp)), m2.chg c (fun e => by
        rcases e with e | e
        · exact hd.2.1 e.symm
        · exact blk_unl m2.blk k2.row (by decide) e) (fun e => by
        rcases e with e | e
        · exact blk_unl m2.row k2.blk (by decide) e
        · exact hd.2.2 e.symm), m3⟩
/-- The whole behind a step of one auction. -/
theorem Hm.sal {w w' : World} {X : Ad} {H : Hs} {i : Nat} {a : Nat × Nat × Nat} {x : Clo.Au × Int} {A' : Clo.Au} (h : Hm w base X H) (hi : X.sl[i]? = some (some a)) (hx : H.ss[i]? = some (some x)) (hl : Clo.Lc w' a.2.1 a.2.2 A') (ho : Clo.Ofc a.2.1 a.2.2 w w') (h2 : A'.ds.length = x.1.ds.length) :
    Hm w' base X { H with ss := H.ss.set i (some (A', x.2)) } ∧ Hst w w' X X := by
  obtain ⟨k1, k2, k3⟩ := h.sls.sal i a x hi hx
  have c : Chg (fun k => k = a.2.1 ∨ k = a.2.2) w w' := Chg.of_ofc ho (Or.inl rfl) (Or.inr rfl)
  have he := fun ts (h1 : 80 ∉ ts) (h2 : 83 ∉ ts) => Elsw.two (ts := ts) k2.blk h1 k2.row h2
  refine ⟨⟨h.ha.chg c (he _ (by decide) (by decide)), h.mks.chg c (he _ (by decide) (by decide)), h.sls.step hi hx hl ho, h.b0, h.n0, fun j y hy => ?_⟩,
    ⟨⟨c.os, c.tape, c.output, c.size, fun k hk hn => c.block k hk (fun e => hn (Or.inr (Or.inr (Or.inr (Or.inr ⟨a, List.mem_of_getElem? hi, e⟩)))))⟩, fun k hk => Or.inl hk⟩⟩
  simp only at hy
  rw [List.getElem?_set] at hy
  split at hy
  · next e =>
    subst e
    have hsl := (List.getElem?_eq_some_iff.1 hx).1
    simp only [hsl, if_true, Option.some.injEq] at hy
    subst hy
    obtain ⟨d2, d3⟩ := h.ds i x hx
    exact ⟨h2.trans d2, d3⟩
  · exact h.ds j y hy
/-- How much cash is held of a bidder. -/
def hldM (A : Clo.Au) (who : Nat) : Int := max (Clo.wasOf A.ds who * A.last) (Clo.nowOf A.ds who * A.price)
theorem last_bd {A : Clo.Au} (H : Clo.Inv A) : 0 ≤ A.last ∧ A.last ≤ 1099511627776 := by
  have h1 := H.price0
  have h2 := H.mul
  have h3 := H.st
  have h4 := H.sp
  have h5 := H.rd
  unfold Clo.Au.last
  split
  · omega
  · rename_i hr
    have h6 : (A.round - 1) * A.step = (A.round - 2) * A.step + A.step := by
      have : A.round - 1 = (A.round - 2) + 1 := by omega
      rw [this, Int.add_mul]; omega
    have h7 : 0 ≤ (A.round - 2) * A.step := Int.mul_nonneg (by omega) (by omega)
    unfold Clo.Au.price at *
    omega
theorem hld_bd {A : Clo.Au} (H : Clo.Inv A) {who : Nat} (hw : who < A.ds.length) : (0 ≤ Clo.wasOf A.ds who * A.last ∧ Clo.wasOf A.ds who * A.last ≤ 1152921504606846976) ∧ (0 ≤ Clo.nowOf A.ds who * A.price ∧ Clo.nowOf A.ds who * A.price ≤ 1152921504606846976) ∧ 0 ≤ hldM A who ∧ hldM A who ≤ 1152921504606846976 := by
  obtain ⟨d1, d2, d3, d4⟩ := H.dm who hw
  have p1 := H.price0
  have p2 := last_bd H
  have a1 := Int.mul_nonneg d1 p2.1
  have a2 := Int.mul_nonneg d3 p1.1
  have a3 : Clo.wasOf A.ds who * A.last ≤ 1048576 * 1099511627776 := Int.mul_le_mul d2 p2.2 p2.1 (by decide)
  have a4 : Clo.nowOf A.ds who * A.price ≤ 1048576 * 1099511627776 := Int.mul_le_mul d4 p1.2 p1.1 (by decide)
  unfold hldM
  omega
set_option maxRecDepth 100000 in
set_option maxHeartbeats 1000000 in
theorem holds_hs (w : World) {ps pa ba : Nat} {A : Clo.Au} {sel : Int} (hs : Blk w ps #[.pointer (some ⟨pa, 0, none⟩), .int .i64 sel] 66) (hl : Clo.Lc w pa ba A) (who : Nat) (hw : who < A.ds.length) :
    Calls Tryz.prog 79 #[.pointer (some ⟨ps, 0, none⟩), .int .i64 who] w fun e w' => e = .returned (.int .i64 (hldM A who)) ∧ Below w.heap.size w w' := by
  have c0 : w.cell? ⟨ps, 0, none⟩ = some (.pointer (some ⟨pa, 0, none⟩)) := hs.cell rfl
  have HW : Hid _ := Clo.wants_ok w hl (who : Int) (by omega) (by omega)
  have hb := hld_bd hl.inv hw
  have HL : Hid (∀ wx, Below w.heap.size w wx → _) := fun wx hx => Clo.last_calls wx (hl.below hx)
  have HP : Hid (∀ wx, Below w.heap.size w wx → _) := fun wx hx => Clo.price_calls wx (hl.below hx)
  have hps := hs.lt
  obtain ⟨R, hR⟩ : ∃ R, hldM A who = R := ⟨_, rfl⟩
  rw [hR] at hb ⊢
  unfold hldM at hR
  rw [Int.toNat_natCast] at HW
  generalize Clo.wasOf A.ds who = wa at *
  generalize Clo.nowOf A.ds who = no at *
  generalize A.last = la at *
  generalize A.price = pr at *
  have hwr1 : IntKind.i64.wrap (wa * la) = wa * la := by rw [IntKind.wrap_i64]; omega
  have hwr2 : IntKind.i64.wrap (no * pr) = no * pr := by rw [IntKind.wrap_i64]; omega
  obtain ⟨m1, hm1⟩ : ∃ m1, wa * la = m1 := ⟨_, rfl⟩
  obtain ⟨m2, hm2⟩ : ∃ m2, no * pr = m2 := ⟨_, rfl⟩
  rw [hm1] at hwr1 hR
  rw [hm2] at hwr2 hR
  clear hs hl hb
  go_enter Tryz.func79, Tryz.ntmps79
  go_wp2_with fail
  refine Calls.mono HW.out ?_
  rintro e w1 ⟨rfl, b1⟩
  go_upto_region 2 with fail
  refine wp_region_held_drew (S := (fun wx => Below w.heap.size w wx)) (by kernel_rfl) b1.drew (fun hS => ?_)
  refine tkG (i := 0) (v := .int .i64 wa) rfl hS ?_
  refine tkG (i := 1) (v := .pointer (some ⟨ps, 0, none⟩)) rfl hS ?_
  refine tkG (i := 2) (v := .pointer (some ⟨ps, 0, none⟩)) rfl hS ?_
  refine tkG (i := 3) (v := .pointer (some ⟨ps, 0, none⟩)) rfl hS ?_
  refine tkH (i := 4) (v := .pointer (some ⟨pa, 0, none⟩)) rfl (fun w3 hS => by have e0 : w3.cell? ⟨ps, 0, none⟩ = some (.pointer (some ⟨pa, 0, none⟩)) := (hS.cell (p := ⟨ps, 0, none⟩) hps).trans c0; go_simp) hS ?_
  refine tkG (i := 7) (v := .int .i64 no) rfl hS ?_
  refine tkG (i := 8) (v := .pointer (some ⟨ps, 0, none⟩)) rfl hS ?_
  refine tkG (i := 9) (v := .pointer (some ⟨ps, 0, none⟩)) rfl hS ?_
  refine tkG (i := 10) (v := .pointer (some ⟨ps, 0, none⟩)) rfl hS ?_
  refine tkH (i := 11) (v := .pointer (some ⟨pa, 0, none⟩)) rfl (fun w3 hS => by have e0 : w3.cell? ⟨ps, 0, none⟩ = some (.pointer (some ⟨pa, 0, none⟩)) := (hS.cell (p := ⟨ps, 0, none⟩) hps).trans c0; go_simp) hS ?_
  refine wpAnyH_ready (rs := [5]) (by kernel_rfl) (by simp) ?_
  refine AllReadyH.cons rfl (fun K hK => ?_) AllReadyH.nil
  go_simp
  refine (HL.out _ hS).mono ?_
  rintro e w2 ⟨rfl, b2⟩
  have b12 : Below w.heap.size w w2 := hS.trans (b2.mono hS.size)
  refine hK.out _ _ b12 (fun hS => ?_)
  clear hK
  refine tkH (i := 6) (v := .int .i64 m1) rfl (fun w3 hS => by go_simp; first | done | exact hwr1) hS ?_
  refine wpAnyH_ready (rs := [12]) (by kernel_rfl) (by simp) ?_
  refine AllReadyH.cons rfl (fun K hK => ?_) AllReadyH.nil
  go_simp
  refine (HP.out _ hS).mono ?_
  rintro e w3 ⟨rfl, b3⟩
  have b13 : Below w.heap.size w w3 := hS.trans (b3.mono hS.size)
  refine hK.out _ _ b13 (fun hS => ?_)
  clear hK
  refine tkH (i := 13) (v := .int .i64 m2) rfl (fun w3 hS => by go_simp; first | done | exact hwr2) hS ?_
  refine tkH (i := 14) (v := .int .i64 R) rfl (fun w3 hS => by go_simp; first | done | exact hR | omega) hS ?_
  refine tkG (i := 15) (v := .int .i64 R) rfl hS ?_
  refine wpAnyH_done (by kernel_rfl) ?_ _
  go_wp2
  go_ret
  exact ⟨rfl, b13⟩
end Go.Proofs.YtpekfpfhonechaaGreat
