/- The walk of VlogStays. -/
import Derived.Test.YtjpmnmgnbpecjaaVlSa
namespace Go.Proofs.Ytjpmnmgnbpecjaa
open Go.Shelf Go.RowKit Go.Lib Go.Sort
open Go.ChangeMaps (setBlock)
set_option linter.unusedSimpArgs false
set_option linter.unusedVariables false
variable {w : World} {p : Nat} {mp : Nat → Option Nat} {L : Lv}
/-- A block beside a log is written. -/
theorem Ats.cell {B : Nat} {w0 : World} (h : Ats B w0 w p mp L) {bw o : Nat} {cs : Array Value} {t : TypeId} (X : Blk w bw cs t) (ht : t ≠ 38) (hb : B ≤ bw) (hp : bw ≠ p) (u : Value) : Ats B w0 (w.setCell ⟨bw, o, none⟩ u) p mp L := by
  have hk : ∀ k, k ≠ bw → (w.setCell ⟨bw, o, none⟩ u).heap[k]? = w.heap[k]? := fun k hk => heap_setCell_other _ _ _ _ (by show k ≠ bw; exact hk)
  refine ⟨h.lg.keep (hk p (fun e => hp e.symm)) (fun j b hj e => hk b (fun e2 => ?_)) (fun g cs2 Y => hk g (fun e2 => ?_)), h.bel.setCell (p := ⟨bw, o, none⟩) hb u, h.pb, h.mb, h.inv, h.fl⟩
  · have := h.lg.maps j hj
    rw [e] at this
    exact this.blk X e2
  · subst e2
    have h1 : w.heap[g]? = some (.cells cs t) := X
    have h2 : w.heap[g]? = some (.cells cs2 38) := Y
    rw [h1] at h2
    injection h2 with h2
    injection h2 with _ h3
    exact ht h3
/-- What was prepared and committed, as it was noted. -/
def WasB (w : World) (bw : Nat) (M : Lv) (k : Nat) : Prop := ∃ cs, Blk w bw cs 45 ∧ cs.size = 20 ∧ ∀ j : Nat, j < k → cs[j * 2]? = some (.bool (M.prepAt (M.lo + j))) ∧ cs[j * 2 + 1]? = some (.bool (M.commAt (M.lo + j)))
theorem WasB.below {w w' : World} {bw : Nat} {M : Lv} {k : Nat} (h : WasB w bw M k) (hb : Below w.heap.size w w') : WasB w' bw M k := by
  obtain ⟨cs, h1, h2, h3⟩ := h
  exact ⟨cs, h1.below hb, h2, h3⟩
theorem WasB.stp {w w' : World} {bw : Nat} {M M' : Lv} {k : Nat} {mp' : Nat → Option Nat} (h : WasB w bw M k) (hs : Stp p mp w mp' w') (hl : Lg w p mp M') (hp : bw ≠ p) : WasB w' bw M k := by
  obtain ⟨cs, h1, h2, h3⟩ := h
  exact ⟨cs, hs.keep hl h1 hp, h2, h3⟩
theorem set_at {cs : Array Value} {i j : Nat} (u : Value) (h : i < cs.size) : (cs.setIfInBounds i u)[j]? = if j = i then some u else cs[j]? := by
  rw [Array.getElem?_setIfInBounds]
  by_cases e : i = j
  · subst e; simp [h]
  · rw [if_neg e, if_neg (fun x => e x.symm)]
theorem WasB.note {w : World} {bw : Nat} {M : Lv} {k : Nat} (h : WasB w bw M k) (hk : k < 10) : WasB ((w.setCell ⟨bw, k * 2, none⟩ (.bool (M.prepAt (M.lo + k)))).setCell ⟨bw, k * 2 + 1, none⟩ (.bool (M.commAt (M.lo + k)))) bw M (k + 1) := by
  obtain ⟨cs, h1, h2, h3⟩ := h
  refine ⟨_, (h1.set (k * 2) _).set (k * 2 + 1) _, by simpa using h2, fun j hj => ?_⟩
  have e1 : ∀ x, ((cs.setIfInBounds (k * 2) (.bool (M.prepAt (M.lo + k)))).setIfInBounds (k * 2 + 1) (.bool (M.commAt (M.lo + k))))[x]? = if x = k * 2 + 1 then some (.bool (M.commAt (M.lo + k))) else if x = k * 2 then some (.bool (M.prepAt (M.lo + k))) else cs[x]? := fun x => by
    rw [set_at _ (by rw [Array.size_setIfInBounds]; omega), set_at _ (by omega)]
  rw [e1, e1]
  by_cases e : j = k
  · subst e
    rw [if_neg (by omega), if_pos rfl, if_pos rfl]
    exact ⟨rfl, rfl⟩
  · rw [if_neg (by omega), if_neg (by omega), if_neg (by omega), if_neg (by omega)]
    exact h3 j (by omega)
set_option maxHeartbeats 16000000 in
set_option maxRecDepth 100000 in
theorem stays_calls (v1 v2 : Value) (l1 l2 : List Ac) (w : World) (h1 : Acs w v1 l1) (h2 : Acs w v2 l2) :
    Calls Try.prog 5 #[v1, v2] w fun e w' => e = .returned (.bool true) ∧ Below w.heap.size w w' := by
  have HBg := begun_calls v1 l1 w w h1 (Below.refl _ _)
  generalize runs (Lv.new 7) (l1.take 80) = M at *
  obtain ⟨va, vcap, rfl, _⟩ := h1.any
  obtain ⟨vb, vcap2, rfl, hc⟩ := h2.any
  have HC : Hid _ := hc
  clear h1 h2 hc
  go_enter Try.func5, Try.ntmps5
  go_wp2_with fail
  refine HBg.mono ?_
  rintro e w1 ⟨rfl, mp1, A1⟩
  have HLo : Hid _ := low_calls A1.lg A1.inv
  have HA1 : Hid _ := A1
  have hp1 : w.heap.size < w1.heap.size := A1.lg.lt
  have hlo := A1.inv.lo
  clear A1 HBg
  go_wp2_with fail
  refine Calls.mono HLo.out ?_
  rintro e w2 ⟨rfl, hw2⟩
  obtain rfl := hw2.symm
  clear HLo
  obtain ⟨W2, hW2, X2, B2⟩ : ∃ W2, w1.alloc (.cells #[.bool false, .bool false, .bool false, .bool false, .bool false, .bool false, .bool false, .bool false, .bool false, .bool false, .bool false, .bool false, .bool false, .bool false, .bool false, .bool false, .bool false, .bool false, .bool false, .bool false] 45) = W2 ∧ Blk W2 w1.heap.size #[.bool false, .bool false, .bool false, .bool false, .bool false, .bool false, .bool false, .bool false, .bool false, .bool false, .bool false, .bool false, .bool false, .bool false, .bool false, .bool false, .bool false, .bool false, .bool false, .bool false] 45 ∧ Below w1.heap.size w1 W2 := ⟨_, rfl, blk_new _ _ _ _ rfl, by go_grown⟩
  have HA2 : Hid (Ats w.heap.size w W2 w.heap.size mp1 M ∧ WasB W2 w1.heap.size M 0) := ⟨Ats.below HA1.out B2, ⟨_, X2, rfl, fun j hj => by omega⟩⟩
  clear X2 B2
  go_wp2_with fail
  go_loopw [8] (fun iv wr => ∃ k : Nat, k ≤ 10 ∧ iv = .int .i64 k ∧ Hid (Ats w.heap.size w wr w.heap.size mp1 M ∧ WasB wr w1.heap.size M k)) (fun iv _ => 10 - (intOf iv).toNat)
  case atStart => exact ⟨0, by omega, rfl, HA2⟩
  case round =>
    obtain ⟨k, hk, rfl, HI⟩ := hrel
    by_cases hlt : k < 10
    · have hd1 : decide ((k : Int) < 10) = true := by simp only [decide_eq_true_eq]; omega
      have hw1 : IntKind.i64.wrap (M.lo + (k : Int)) = M.lo + (k : Int) := by rw [IntKind.wrap_i64]; omega
      have HP : Hid (∀ wx, Below wr.heap.size wr wx → Calls Try.prog 17 #[.pointer (some ⟨w.heap.size, 0, none⟩), .int .i64 (M.lo + (k : Int))] wx fun e w' => e = .returned (.bool (M.prepAt (M.lo + (k : Int)))) ∧ Below wx.heap.size wx w') := fun wx hb => prepd_calls (HI.out.1.below hb).lg HI.out.1.inv _
      have HQ : Hid (∀ wx, Below wr.heap.size wr wx → Calls Try.prog 18 #[.pointer (some ⟨w.heap.size, 0, none⟩), .int .i64 (M.lo + (k : Int))] wx fun e w' => e = .returned (.bool (M.commAt (M.lo + (k : Int)))) ∧ Below wx.heap.size wx w') := fun wx hb => commd_calls (HI.out.1.below hb).lg HI.out.1.inv _
      go_wp2_with fail
      refine Calls.mono (HP.out _ (Below.refl _ _)) ?_
      rintro e w3 ⟨rfl, b3⟩
      go_wp2_with fail
      refine Calls.mono (HQ.out _ b3) ?_
      rintro e w4 ⟨rfl, b4⟩
      have B4 : Below wr.heap.size wr w4 := b3.trans (b4.mono b3.size)
      have HI4 : Hid (Ats w.heap.size w w4 w.heap.size mp1 M ∧ WasB w4 w1.heap.size M k) := ⟨HI.out.1.below B4, HI.out.2.below B4⟩
      obtain ⟨cs, X4, hcs, _⟩ := HI4.out.2
      obtain ⟨u0, q0⟩ : ∃ u, w4.cell? ⟨w1.heap.size, k * 2, none⟩ = some u := ⟨_, X4.cell (Array.getElem?_eq_getElem (by omega))⟩
      have q1 : w4.frozen? ⟨w1.heap.size, k * 2, none⟩ = false := X4.frozen
      have q2 := WasB.note HI4.out.2 hlt
      have q3 : Ats w.heap.size w ((w4.setCell ⟨w1.heap.size, k * 2, none⟩ (.bool (M.prepAt (M.lo + k)))).setCell ⟨w1.heap.size, k * 2 + 1, none⟩ (.bool (M.commAt (M.lo + k)))) w.heap.size mp1 M := (HI4.out.1.cell X4 (by decide) (by omega) (by omega) _).cell (X4.set _ _) (by decide) (by omega) (by omega) _
      generalize M.prepAt (M.lo + (k : Int)) = P0 at *
      generalize M.commAt (M.lo + (k : Int)) = P1 at *
      have X5 := X4.set (k * 2) (.bool P0)
      obtain ⟨u1, q4⟩ : ∃ u, (w4.setCell ⟨w1.heap.size, k * 2, none⟩ (.bool P0)).cell? ⟨w1.heap.size, k * 2 + 1, none⟩ = some u := ⟨_, X5.cell (Array.getElem?_eq_getElem (by simp; omega))⟩
      have q5 : (w4.setCell ⟨w1.heap.size, k * 2, none⟩ (.bool P0)).frozen? ⟨w1.heap.size, k * 2 + 1, none⟩ = false := X5.frozen
      obtain ⟨W5, hW5⟩ : ∃ W5, (w4.setCell ⟨w1.heap.size, k * 2, none⟩ (.bool P0)).setCell ⟨w1.heap.size, k * 2 + 1, none⟩ (.bool P1) = W5 := ⟨_, rfl⟩
      rw [hW5] at q2 q3
      have HI5 : Hid (Ats w.heap.size w W5 w.heap.size mp1 M ∧ WasB W5 w1.heap.size M (k + 1)) := ⟨q3, q2⟩
      have hki : (k : Int) < 10 := by omega
      clear q2 q3 X4 X5 b3 b4 B4 HI HI4 HP HQ hcs
      go_wp2
      exact ⟨⟨k + 1, by omega, by norm_cast, HI5⟩, by simp [intOf]; omega⟩
    · have hd1 : decide ((k : Int) < 10) = false := by simp only [decide_eq_false_iff_not]; omega
      have hk10 : k = 10 := by omega
      have HI2 : Hid (Ats w.heap.size w wr w.heap.size mp1 M ∧ WasB wr w1.heap.size M 10 ∧ Kpp M M) := ⟨HI.out.1, hk10 ▸ HI.out.2, Kpp.refl M⟩
      clear HI HA2 hW2 hk10
      go_wp2_with fail
      obtain ⟨w5, hw5⟩ : ∃ w5, w5 = wr := ⟨wr, rfl⟩
      subst hw5
      go_loopw [9] (fun iv wr => ∃ (k : Nat) (mpk : Nat → Option Nat) (M' : Lv), k ≤ l2.length ∧ k ≤ 40 ∧ iv = .int .i64 k ∧ Hid (Ats w.heap.size w wr w.heap.size mpk M' ∧ WasB wr w1.heap.size M 10 ∧ Kpp M M')) (fun iv _ => l2.length - (intOf iv).toNat)
      case atStart => exact ⟨0, mp1, M, by omega, by omega, rfl, HI2⟩
      case round =>
        clear HI2
        obtain ⟨k, mpk, M', hk, hk1, rfl, HI⟩ := hrel
        by_cases hgo : k < l2.length ∧ k < 40
        · obtain ⟨hlt2, hlt3⟩ := hgo
          have hd1 : decide ((k : Int) < (l2.length : Int)) = true := by simp only [decide_eq_true_eq]; omega
          have hd2 : decide ((k : Int) < 40) = true := by simp only [decide_eq_true_eq]; omega
          obtain ⟨g, off, hga, _, hg, hcel, hfit⟩ := HC.out k hlt2
          subst hga
          have kc : ∀ j u, (Ac.cells l2[k])[j]? = some u → wr.cell? ⟨g, off + k * 6 + j, none⟩ = some u := fun j u hu => (HI.out.1.bel.cell (p := ⟨g, off + k * 6 + j, none⟩) hg).trans (hcel j u hu)
          clear hcel
          generalize l2[k] = A at *
          have e0 : wr.cell? ⟨g, off + k * 6, none⟩ = some (.int .i64 A.kind) := kc 0 _ rfl
          have e1 : wr.cell? ⟨g, off + k * 6 + 1, none⟩ = some (.int .i64 A.frm) := kc 1 _ rfl
          have e2 : wr.cell? ⟨g, off + k * 6 + 2, none⟩ = some (.int .i64 A.vw) := kc 2 _ rfl
          have e3 : wr.cell? ⟨g, off + k * 6 + 3, none⟩ = some (.int .i64 A.sq) := kc 3 _ rfl
          have e4 : wr.cell? ⟨g, off + k * 6 + 4, none⟩ = some (.string A.dg) := kc 4 _ rfl
          have e5 : wr.cell? ⟨g, off + k * 6 + 5, none⟩ = some (.string A.tx) := kc 5 _ rfl
          have HAr : Hid _ := around_calls A.kind 6 wr (by decide) (by decide)
          have HD : Hid _ := act_calls HI.out.1.lg HI.out.1.inv A hfit
          have HO : Hid _ := act_ok HI.out.1.inv HI.out.1.fl A
          have HK0 : Hid (¬ arn A.kind 6 = 0 → ¬ arn A.kind 6 = 5 → Kpp M' (M'.act A).1) := fun x y => act_kpp M' A x y
          generalize M'.act A = R at *
          obtain ⟨R1, R2⟩ := R
          generalize arn A.kind 6 = kd at *
          clear kc hfit
          by_cases k0 : kd = 0
          · subst k0
            go_wp2_with fail
            refine Calls.mono HAr.out ?_
            rintro e w6 ⟨rfl, hw6⟩
            obtain rfl := hw6.symm
            go_wp2
            exact ⟨⟨k + 1, mpk, M', by omega, by omega, by norm_cast, HI⟩, by simp [intOf]; omega⟩
          · have n0 : (kd != 0) = true := by simp [k0]
            by_cases k5 : kd = 5
            · subst k5
              go_wp2_with fail
              refine Calls.mono HAr.out ?_
              rintro e w6 ⟨rfl, hw6⟩
              obtain rfl := hw6.symm
              go_wp2
              exact ⟨⟨k + 1, mpk, M', by omega, by omega, by norm_cast, HI⟩, by simp [intOf]; omega⟩
            · have n5 : (kd != 5) = true := by simp [k5]
              have n6 : (kd == 0) = false := by simp [k0]
              have n7 : (kd == 5) = false := by simp [k5]
              have HK : Hid _ := HK0.out k0 k5
              clear HK0 k0 k5
              go_wp2_with fail
              refine Calls.mono HAr.out ?_
              rintro e w6 ⟨rfl, hw6⟩
              obtain rfl := hw6.symm
              go_wp2_with fail
              refine Calls.mono HD.out ?_
              rintro e w7 ⟨rfl, mp7, l7, s7⟩
              have HI7 : Hid (Ats w.heap.size w w7 w.heap.size mp7 R1 ∧ WasB w7 w1.heap.size M 10 ∧ Kpp M R1) := ⟨Ats.step HI.out.1 l7 s7 HO.out.1 HO.out.2.1, HI.out.2.1.stp s7 HI.out.1.lg (by omega), HI.out.2.2.trans HK.out⟩
              clear l7 s7 HI HD HO HK
              go_wp2
              exact ⟨⟨k + 1, mp7, R1, by omega, by omega, by norm_cast, HI7⟩, by simp [intOf]; omega⟩
        · have HE : Hid (k = l2.length ∨ k = 40) := by show _ ∨ _; omega
          have HI3 : Hid _ := HI
          clear HI
          by_cases h1 : k < l2.length
          · have hd1 : decide ((k : Int) < (l2.length : Int)) = true := by simp only [decide_eq_true_eq]; omega
            have hd2 : decide ((k : Int) < 40) = false := by simp only [decide_eq_false_iff_not]; omega
            go_wp2_with fail
            obtain ⟨w7, hw7⟩ : ∃ w7, w7 = wr := ⟨wr, rfl⟩
            subst hw7
            go_loopw [11] (fun iv wr => ∃ k : Nat, k ≤ 10 ∧ iv = .int .i64 k ∧ Hid (Ats w.heap.size w wr w.heap.size mpk M' ∧ WasB wr w1.heap.size M 10)) (fun iv _ => 10 - (intOf iv).toNat)
            case atStart => exact ⟨0, by omega, rfl, HI3.out.1, HI3.out.2.1⟩
            case round =>
              obtain ⟨q, hq, rfl, HI⟩ := hrel
              by_cases hlt : q < 10
              · have hd8 : decide ((q : Int) < 10) = true := by simp only [decide_eq_true_eq]; omega
                have hw1 : IntKind.i64.wrap (M.lo + (q : Int)) = M.lo + (q : Int) := by rw [IntKind.wrap_i64]; omega
                have HP : Hid (∀ wx, Below wr.heap.size wr wx → Calls Try.prog 17 #[.pointer (some ⟨w.heap.size, 0, none⟩), .int .i64 (M.lo + (q : Int))] wx fun e w' => e = .returned (.bool (M'.prepAt (M.lo + (q : Int)))) ∧ Below wx.heap.size wx w') := fun wx hb => prepd_calls (HI.out.1.below hb).lg HI.out.1.inv _
                have HQ : Hid (∀ wx, Below wr.heap.size wr wx → Calls Try.prog 18 #[.pointer (some ⟨w.heap.size, 0, none⟩), .int .i64 (M.lo + (q : Int))] wx fun e w' => e = .returned (.bool (M'.commAt (M.lo + (q : Int)))) ∧ Below wx.heap.size wx w') := fun wx hb => commd_calls (HI.out.1.below hb).lg HI.out.1.inv _
                have HNx : Hid (∀ wx, Below wr.heap.size wr wx → Ats w.heap.size w wx w.heap.size mpk M' ∧ WasB wx w1.heap.size M 10) := fun wx hb => ⟨HI.out.1.below hb, HI.out.2.below hb⟩
                have HCl : Hid (∀ wx, Below wr.heap.size wr wx → wx.cell? ⟨w1.heap.size, q * 2, none⟩ = some (.bool (M.prepAt (M.lo + (q : Int)))) ∧ wx.cell? ⟨w1.heap.size, q * 2 + 1, none⟩ = some (.bool (M.commAt (M.lo + (q : Int))))) := fun wx hb => by
                  obtain ⟨cs, X, _, hc⟩ := (HI.out.2.below hb)
                  exact ⟨X.cell (hc q hlt).1, X.cell (hc q hlt).2⟩
                have i1 := HI3.out.2.2.prepAt (M.lo + (q : Int))
                have i2 := HI3.out.2.2.commAt (M.lo + (q : Int))
                have i3 := @comm_prepAt M' (M.lo + (q : Int))
                have i4 := @comm_prepAt M (M.lo + (q : Int))
                have hqi : (q : Int) < 10 := by omega
                obtain ⟨t0, t1⟩ := HCl.out wr (Below.refl _ _)
                generalize M.prepAt (M.lo + (q : Int)) = a at *
                generalize M.commAt (M.lo + (q : Int)) = b at *
                generalize M'.prepAt (M.lo + (q : Int)) = c at *
                generalize M'.commAt (M.lo + (q : Int)) = d at *
                clear HI
                obtain hcs | hcs | hcs | hcs | hcs | hcs : (a = false ∧ b = false ∧ c = false ∧ d = false) ∨ (a = false ∧ b = false ∧ c = true ∧ d = false) ∨ (a = false ∧ b = false ∧ c = true ∧ d = true) ∨ (a = true ∧ b = false ∧ c = true ∧ d = false) ∨ (a = true ∧ b = false ∧ c = true ∧ d = true) ∨ (a = true ∧ b = true ∧ c = true ∧ d = true) := by revert i1 i2 i3 i4; cases a <;> cases b <;> cases c <;> cases d <;> simp
                all_goals clear i1 i2 i3 i4
                · obtain ⟨rfl, rfl, rfl, rfl⟩ := hcs
                  go_wp2_with fail
                  refine Calls.mono (HQ.out _ (Below.refl _ _)) ?_
                  rintro e x0 ⟨rfl, z0⟩
                  have y0 : Below wr.heap.size wr x0 := z0
                  clear t0 t1 z0
                  obtain ⟨t0, t1⟩ := HCl.out _ y0
                  go_wp2
                  exact ⟨⟨q + 1, by omega, by norm_cast, HNx.out _ y0⟩, by simp [intOf]; omega⟩
                · obtain ⟨rfl, rfl, rfl, rfl⟩ := hcs
                  go_wp2_with fail
                  refine Calls.mono (HQ.out _ (Below.refl _ _)) ?_
                  rintro e x0 ⟨rfl, z0⟩
                  have y0 : Below wr.heap.size wr x0 := z0
                  clear t0 t1 z0
                  obtain ⟨t0, t1⟩ := HCl.out _ y0
                  go_wp2
                  exact ⟨⟨q + 1, by omega, by norm_cast, HNx.out _ y0⟩, by simp [intOf]; omega⟩
                · obtain ⟨rfl, rfl, rfl, rfl⟩ := hcs
                  go_wp2_with fail
                  refine Calls.mono (HQ.out _ (Below.refl _ _)) ?_
                  rintro e x0 ⟨rfl, z0⟩
                  have y0 : Below wr.heap.size wr x0 := z0
                  clear t0 t1 z0
                  obtain ⟨t0, t1⟩ := HCl.out _ y0
                  go_wp2_with fail
                  refine Calls.mono (HP.out _ y0) ?_
                  rintro e x1 ⟨rfl, z1⟩
                  have y1 : Below wr.heap.size wr x1 := y0.trans (z1.mono y0.size)
                  clear t0 t1 z1
                  obtain ⟨t0, t1⟩ := HCl.out _ y1
                  go_wp2
                  exact ⟨⟨q + 1, by omega, by norm_cast, HNx.out _ y1⟩, by simp [intOf]; omega⟩
                · obtain ⟨rfl, rfl, rfl, rfl⟩ := hcs
                  go_wp2_with fail
                  refine Calls.mono (HP.out _ (Below.refl _ _)) ?_
                  rintro e x0 ⟨rfl, z0⟩
                  have y0 : Below wr.heap.size wr x0 := z0
                  clear t0 t1 z0
                  obtain ⟨t0, t1⟩ := HCl.out _ y0
                  go_wp2_with fail
                  refine Calls.mono (HQ.out _ y0) ?_
                  rintro e x1 ⟨rfl, z1⟩
                  have y1 : Below wr.heap.size wr x1 := y0.trans (z1.mono y0.size)
                  clear t0 t1 z1
                  obtain ⟨t0, t1⟩ := HCl.out _ y1
                  go_wp2
                  exact ⟨⟨q + 1, by omega, by norm_cast, HNx.out _ y1⟩, by simp [intOf]; omega⟩
                · obtain ⟨rfl, rfl, rfl, rfl⟩ := hcs
                  go_wp2_with fail
                  refine Calls.mono (HP.out _ (Below.refl _ _)) ?_
                  rintro e x0 ⟨rfl, z0⟩
                  have y0 : Below wr.heap.size wr x0 := z0
                  clear t0 t1 z0
                  obtain ⟨t0, t1⟩ := HCl.out _ y0
                  go_wp2_with fail
                  refine Calls.mono (HQ.out _ y0) ?_
                  rintro e x1 ⟨rfl, z1⟩
                  have y1 : Below wr.heap.size wr x1 := y0.trans (z1.mono y0.size)
                  clear t0 t1 z1
                  obtain ⟨t0, t1⟩ := HCl.out _ y1
                  go_wp2_with fail
                  refine Calls.mono (HP.out _ y1) ?_
                  rintro e x2 ⟨rfl, z2⟩
                  have y2 : Below wr.heap.size wr x2 := y1.trans (z2.mono y1.size)
                  clear t0 t1 z2
                  obtain ⟨t0, t1⟩ := HCl.out _ y2
                  go_wp2
                  exact ⟨⟨q + 1, by omega, by norm_cast, HNx.out _ y2⟩, by simp [intOf]; omega⟩
                · obtain ⟨rfl, rfl, rfl, rfl⟩ := hcs
                  go_wp2_with fail
                  refine Calls.mono (HP.out _ (Below.refl _ _)) ?_
                  rintro e x0 ⟨rfl, z0⟩
                  have y0 : Below wr.heap.size wr x0 := z0
                  clear t0 t1 z0
                  obtain ⟨t0, t1⟩ := HCl.out _ y0
                  go_wp2_with fail
                  refine Calls.mono (HQ.out _ y0) ?_
                  rintro e x1 ⟨rfl, z1⟩
                  have y1 : Below wr.heap.size wr x1 := y0.trans (z1.mono y0.size)
                  clear t0 t1 z1
                  obtain ⟨t0, t1⟩ := HCl.out _ y1
                  go_wp2_with fail
                  refine Calls.mono (HQ.out _ y1) ?_
                  rintro e x2 ⟨rfl, z2⟩
                  have y2 : Below wr.heap.size wr x2 := y1.trans (z2.mono y1.size)
                  clear t0 t1 z2
                  obtain ⟨t0, t1⟩ := HCl.out _ y2
                  go_wp2_with fail
                  refine Calls.mono (HP.out _ y2) ?_
                  rintro e x3 ⟨rfl, z3⟩
                  have y3 : Below wr.heap.size wr x3 := y2.trans (z3.mono y2.size)
                  clear t0 t1 z3
                  obtain ⟨t0, t1⟩ := HCl.out _ y3
                  go_wp2
                  exact ⟨⟨q + 1, by omega, by norm_cast, HNx.out _ y3⟩, by simp [intOf]; omega⟩
              · have hd8 : decide ((q : Int) < 10) = false := by simp only [decide_eq_false_iff_not]; omega
                clear HI3
                go_wp2_with fail
                refine (awake_calls _).mono ?_
                rintro e w8 ⟨rfl, b8⟩
                go_wp2
                go_ret
                exact ⟨rfl, HI.out.1.bel.trans (b8.mono HI.out.1.sz)⟩
          · have hd1 : decide ((k : Int) < (l2.length : Int)) = false := by simp only [decide_eq_false_iff_not]; omega
            go_wp2_with fail
            obtain ⟨w7, hw7⟩ : ∃ w7, w7 = wr := ⟨wr, rfl⟩
            subst hw7
            go_loopw [11] (fun iv wr => ∃ k : Nat, k ≤ 10 ∧ iv = .int .i64 k ∧ Hid (Ats w.heap.size w wr w.heap.size mpk M' ∧ WasB wr w1.heap.size M 10)) (fun iv _ => 10 - (intOf iv).toNat)
            case atStart => exact ⟨0, by omega, rfl, HI3.out.1, HI3.out.2.1⟩
            case round =>
              obtain ⟨q, hq, rfl, HI⟩ := hrel
              by_cases hlt : q < 10
              · have hd8 : decide ((q : Int) < 10) = true := by simp only [decide_eq_true_eq]; omega
                have hw1 : IntKind.i64.wrap (M.lo + (q : Int)) = M.lo + (q : Int) := by rw [IntKind.wrap_i64]; omega
                have HP : Hid (∀ wx, Below wr.heap.size wr wx → Calls Try.prog 17 #[.pointer (some ⟨w.heap.size, 0, none⟩), .int .i64 (M.lo + (q : Int))] wx fun e w' => e = .returned (.bool (M'.prepAt (M.lo + (q : Int)))) ∧ Below wx.heap.size wx w') := fun wx hb => prepd_calls (HI.out.1.below hb).lg HI.out.1.inv _
                have HQ : Hid (∀ wx, Below wr.heap.size wr wx → Calls Try.prog 18 #[.pointer (some ⟨w.heap.size, 0, none⟩), .int .i64 (M.lo + (q : Int))] wx fun e w' => e = .returned (.bool (M'.commAt (M.lo + (q : Int)))) ∧ Below wx.heap.size wx w') := fun wx hb => commd_calls (HI.out.1.below hb).lg HI.out.1.inv _
                have HNx : Hid (∀ wx, Below wr.heap.size wr wx → Ats w.heap.size w wx w.heap.size mpk M' ∧ WasB wx w1.heap.size M 10) := fun wx hb => ⟨HI.out.1.below hb, HI.out.2.below hb⟩
                have HCl : Hid (∀ wx, Below wr.heap.size wr wx → wx.cell? ⟨w1.heap.size, q * 2, none⟩ = some (.bool (M.prepAt (M.lo + (q : Int)))) ∧ wx.cell? ⟨w1.heap.size, q * 2 + 1, none⟩ = some (.bool (M.commAt (M.lo + (q : Int))))) := fun wx hb => by
                  obtain ⟨cs, X, _, hc⟩ := (HI.out.2.below hb)
                  exact ⟨X.cell (hc q hlt).1, X.cell (hc q hlt).2⟩
                have i1 := HI3.out.2.2.prepAt (M.lo + (q : Int))
                have i2 := HI3.out.2.2.commAt (M.lo + (q : Int))
                have i3 := @comm_prepAt M' (M.lo + (q : Int))
                have i4 := @comm_prepAt M (M.lo + (q : Int))
                have hqi : (q : Int) < 10 := by omega
                obtain ⟨t0, t1⟩ := HCl.out wr (Below.refl _ _)
                generalize M.prepAt (M.lo + (q : Int)) = a at *
                generalize M.commAt (M.lo + (q : Int)) = b at *
                generalize M'.prepAt (M.lo + (q : Int)) = c at *
                generalize M'.commAt (M.lo + (q : Int)) = d at *
                clear HI
                obtain hcs | hcs | hcs | hcs | hcs | hcs : (a = false ∧ b = false ∧ c = false ∧ d = false) ∨ (a = false ∧ b = false ∧ c = true ∧ d = false) ∨ (a = false ∧ b = false ∧ c = true ∧ d = true) ∨ (a = true ∧ b = false ∧ c = true ∧ d = false) ∨ (a = true ∧ b = false ∧ c = true ∧ d = true) ∨ (a = true ∧ b = true ∧ c = true ∧ d = true) := by revert i1 i2 i3 i4; cases a <;> cases b <;> cases c <;> cases d <;> simp
                all_goals clear i1 i2 i3 i4
                · obtain ⟨rfl, rfl, rfl, rfl⟩ := hcs
                  go_wp2_with fail
                  refine Calls.mono (HQ.out _ (Below.refl _ _)) ?_
                  rintro e x0 ⟨rfl, z0⟩
                  have y0 : Below wr.heap.size wr x0 := z0
                  clear t0 t1 z0
                  obtain ⟨t0, t1⟩ := HCl.out _ y0
                  go_wp2
                  exact ⟨⟨q + 1, by omega, by norm_cast, HNx.out _ y0⟩, by simp [intOf]; omega⟩
                · obtain ⟨rfl, rfl, rfl, rfl⟩ := hcs
                  go_wp2_with fail
                  refine Calls.mono (HQ.out _ (Below.refl _ _)) ?_
                  rintro e x0 ⟨rfl, z0⟩
                  have y0 : Below wr.heap.size wr x0 := z0
                  clear t0 t1 z0
                  obtain ⟨t0, t1⟩ := HCl.out _ y0
                  go_wp2
                  exact ⟨⟨q + 1, by omega, by norm_cast, HNx.out _ y0⟩, by simp [intOf]; omega⟩
                · obtain ⟨rfl, rfl, rfl, rfl⟩ := hcs
                  go_wp2_with fail
                  refine Calls.mono (HQ.out _ (Below.refl _ _)) ?_
                  rintro e x0 ⟨rfl, z0⟩
                  have y0 : Below wr.heap.size wr x0 := z0
                  clear t0 t1 z0
                  obtain ⟨t0, t1⟩ := HCl.out _ y0
                  go_wp2_with fail
                  refine Calls.mono (HP.out _ y0) ?_
                  rintro e x1 ⟨rfl, z1⟩
                  have y1 : Below wr.heap.size wr x1 := y0.trans (z1.mono y0.size)
                  clear t0 t1 z1
                  obtain ⟨t0, t1⟩ := HCl.out _ y1
                  go_wp2
                  exact ⟨⟨q + 1, by omega, by norm_cast, HNx.out _ y1⟩, by simp [intOf]; omega⟩
                · obtain ⟨rfl, rfl, rfl, rfl⟩ := hcs
                  go_wp2_with fail
                  refine Calls.mono (HP.out _ (Below.refl _ _)) ?_
                  rintro e x0 ⟨rfl, z0⟩
                  have y0 : Below wr.heap.size wr x0 := z0
                  clear t0 t1 z0
                  obtain ⟨t0, t1⟩ := HCl.out _ y0
                  go_wp2_with fail
                  refine Calls.mono (HQ.out _ y0) ?_
                  rintro e x1 ⟨rfl, z1⟩
                  have y1 : Below wr.heap.size wr x1 := y0.trans (z1.mono y0.size)
                  clear t0 t1 z1
                  obtain ⟨t0, t1⟩ := HCl.out _ y1
                  go_wp2
                  exact ⟨⟨q + 1, by omega, by norm_cast, HNx.out _ y1⟩, by simp [intOf]; omega⟩
                · obtain ⟨rfl, rfl, rfl, rfl⟩ := hcs
                  go_wp2_with fail
                  refine Calls.mono (HP.out _ (Below.refl _ _)) ?_
                  rintro e x0 ⟨rfl, z0⟩
                  have y0 : Below wr.heap.size wr x0 := z0
                  clear t0 t1 z0
                  obtain ⟨t0, t1⟩ := HCl.out _ y0
                  go_wp2_with fail
                  refine Calls.mono (HQ.out _ y0) ?_
                  rintro e x1 ⟨rfl, z1⟩
                  have y1 : Below wr.heap.size wr x1 := y0.trans (z1.mono y0.size)
                  clear t0 t1 z1
                  obtain ⟨t0, t1⟩ := HCl.out _ y1
                  go_wp2_with fail
                  refine Calls.mono (HP.out _ y1) ?_
                  rintro e x2 ⟨rfl, z2⟩
                  have y2 : Below wr.heap.size wr x2 := y1.trans (z2.mono y1.size)
                  clear t0 t1 z2
                  obtain ⟨t0, t1⟩ := HCl.out _ y2
                  go_wp2
                  exact ⟨⟨q + 1, by omega, by norm_cast, HNx.out _ y2⟩, by simp [intOf]; omega⟩
                · obtain ⟨rfl, rfl, rfl, rfl⟩ := hcs
                  go_wp2_with fail
                  refine Calls.mono (HP.out _ (Below.refl _ _)) ?_
                  rintro e x0 ⟨rfl, z0⟩
                  have y0 : Below wr.heap.size wr x0 := z0
                  clear t0 t1 z0
                  obtain ⟨t0, t1⟩ := HCl.out _ y0
                  go_wp2_with fail
                  refine Calls.mono (HQ.out _ y0) ?_
                  rintro e x1 ⟨rfl, z1⟩
                  have y1 : Below wr.heap.size wr x1 := y0.trans (z1.mono y0.size)
                  clear t0 t1 z1
                  obtain ⟨t0, t1⟩ := HCl.out _ y1
                  go_wp2_with fail
                  refine Calls.mono (HQ.out _ y1) ?_
                  rintro e x2 ⟨rfl, z2⟩
                  have y2 : Below wr.heap.size wr x2 := y1.trans (z2.mono y1.size)
                  clear t0 t1 z2
                  obtain ⟨t0, t1⟩ := HCl.out _ y2
                  go_wp2_with fail
                  refine Calls.mono (HP.out _ y2) ?_
                  rintro e x3 ⟨rfl, z3⟩
                  have y3 : Below wr.heap.size wr x3 := y2.trans (z3.mono y2.size)
                  clear t0 t1 z3
                  obtain ⟨t0, t1⟩ := HCl.out _ y3
                  go_wp2
                  exact ⟨⟨q + 1, by omega, by norm_cast, HNx.out _ y3⟩, by simp [intOf]; omega⟩
              · have hd8 : decide ((q : Int) < 10) = false := by simp only [decide_eq_false_iff_not]; omega
                clear HI3
                go_wp2_with fail
                refine (awake_calls _).mono ?_
                rintro e w8 ⟨rfl, b8⟩
                go_wp2
                go_ret
                exact ⟨rfl, HI.out.1.bel.trans (b8.mono HI.out.1.sz)⟩
end Go.Proofs.Ytjpmnmgnbpecjaa
