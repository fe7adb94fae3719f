/- LedgerConserves for every script and call: it answers true. -/
import Derived.Test.YtkgkflgopiabiaaLgE
import Derived.Test.YtkgkflgopiabiaaLgS
import Derived.Test.YtkgkflgopiabiaaLgQ
import Derived.Deep.RegionHeld
import Derived.Deep.DeepCutAuto
import Derived.Deep.CutBlock
namespace Go.Proofs.Ytkgkflgopiabiaa
open Go.RowKit
set_option linter.unusedSimpArgs false
set_option linter.unusedVariables false

theorem gC_set (f : Nat → Int) (q : Nat) (h : q < 4) (v : Int) : (gC f).setIfInBounds q (.int .i64 v) = gC (fun x => if x = 2 + q then v else f x) := by
  have : q = 0 ∨ q = 1 ∨ q = 2 ∨ q = 3 := by omega
  rcases this with rfl | rfl | rfl | rfl <;> rfl
theorem Inv.le' {g : Nat} {l : List Kt} (H : Inv g l) {a h : Nat} (p : Part a h) : 0 ≤ tot l a ∧ tot l a ≤ 1099511627776 := ⟨tot_nonneg l a (H.nn p), H.all a h p⟩
theorem gC_congr {f f' : Nat → Int} (h : ∀ x, 2 ≤ x → x ≤ 5 → f x = f' x) : gC f = gC f' := by
  unfold gC
  rw [h 2 (by omega) (by omega), h 3 (by omega) (by omega), h 4 (by omega) (by omega), h 5 (by omega) (by omega)]
set_option maxRecDepth 100000 in
set_option maxHeartbeats 2000000 in
theorem conserves_calls (v : Value) (ls : List Ac) (a : Ac) (w : World) (hl : Acs w v ls) (hz : ls.length * 56 ≤ 140737488351232) (hf : a.fit) :
    Calls Try.prog 4 #[v, a.val] w fun e w' => e = .returned (.bool true) ∧ Below w.heap.size w w' := by
  obtain ⟨W0, hW0, X0, B0, Z0⟩ : ∃ W0, (w.alloc (.cells #[.int .i64 a.kind, .int .i64 a.who, .int .i64 a.dst, .int .i64 a.good, .int .i64 a.n, .string a.text] 36)) = W0 ∧ Blk W0 w.heap.size #[.int .i64 a.kind, .int .i64 a.who, .int .i64 a.dst, .int .i64 a.good, .int .i64 a.n, .string a.text] 36 ∧ Below w.heap.size w W0 ∧ W0.heap.size = w.heap.size + 1 := ⟨_, rfl, blk_new _ _ _ _ rfl, by go_grown, by simp⟩
  have HB : Hid _ := begun_calls v ls W0 (hl.below B0) hz
  have HA : Hid _ := awake_calls
  generalize runs 2 empty3 (ls.take 100) = L at *
  have hZ : Hid _ := Z0
  clear Z0
  unfold Ac.val
  go_enter Try.func4, Try.ntmps4
  go_wp2_with fail
  refine Calls.mono HB.out ?_
  rintro e w1 ⟨p, b, rfl, L1, b1, hp, hb⟩
  clear HB hl hz
  have HT : Hid _ := totals_calls w1 L1
  unfold totV gC at HT
  go_wp2_with fail
  refine Calls.mono HT.out ?_
  rintro e w2 ⟨rfl, b2⟩
  clear HT
  obtain ⟨W3, hW3, X3, B3, Z3⟩ : ∃ W3, (w2.alloc (.cells #[.int .i64 (tot L 2), .int .i64 (tot L 3), .int .i64 (tot L 4), .int .i64 (tot L 5)] 41)) = W3 ∧ Blk W3 w2.heap.size (gC (tot L)) 41 ∧ Below w2.heap.size w2 W3 ∧ W3.heap.size = w2.heap.size + 1 := ⟨_, rfl, blk_new _ _ _ _ rfl, by go_grown, by simp⟩
  have L3 := (L1.below b2).below B3
  have A3 := ((X0.below b1).below b2).below B3
  have z1 := b1.size
  have z2 := b2.size
  have z3 := B3.size
  have z0 := B0.size
  have hA0 := X0.lt
  have BB : Below w.heap.size w W3 := ((B0.trans (b1.mono (by omega))).trans (b2.mono (by omega))).trans (B3.mono (by omega))
  have hbl := L1.row.lt
  have hpl := L1.blk.lt
  have hne1 : w.heap.size ≠ b := by have := hZ.out; omega
  have hne2 : w2.heap.size ≠ b := by omega
  have hwb : w.heap.size ≤ b := by omega
  have a0 : W3.cell? ⟨w.heap.size, 0, none⟩ = some (.int .i64 a.kind) := A3.cell rfl
  have a1 : W3.cell? ⟨w.heap.size, 1, none⟩ = some (.int .i64 a.who) := A3.cell rfl
  have a2 : W3.cell? ⟨w.heap.size, 2, none⟩ = some (.int .i64 a.dst) := A3.cell rfl
  have a3 : W3.cell? ⟨w.heap.size, 3, none⟩ = some (.int .i64 a.good) := A3.cell rfl
  have a4 : W3.cell? ⟨w.heap.size, 4, none⟩ = some (.int .i64 a.n) := A3.cell rfl
  have a5 : W3.cell? ⟨w.heap.size, 5, none⟩ = some (.string a.text) := A3.cell rfl
  have HD : Hid _ := done_calls W3 L3 a (Nat.le_trans hf (by omega)) _ rfl
  unfold Ac.val at HD
  have HS : Hid (∀ x, IsA x → (act 2 L a).1 = 0 → tot (act 2 L a).2 x = tot L x + dlt a x) := fun x hx h => act_sum L1.inv a h hx
  have HNo : Hid ((act 2 L a).1 ≠ 0 → (act 2 L a).2 = L) := act_not a
  have HGo : Hid (rest a.kind 11 = 2 ∨ rest a.kind 11 = 3 → (act 2 L a).1 = 0 → ∃ q : Nat, a.good = q ∧ q < 2) := act_good a
  have HAm : Hid (rest a.kind 11 < 4 → (act 2 L a).1 = 0 → 1 ≤ a.n ∧ a.n ≤ 1099511627776) := act_amount a
  have t0 := L1.inv.all 0 1 part0
  have t0' := tot_nonneg L 0 (L1.inv.nn part0)
  have HI : Hid _ := L1.inv
  generalize act 2 L a = r at *
  clear L1 b1 b2 B3 B0 X0 hW0
  go_wp2_with fail
  refine Calls.mono HD.out ?_
  rintro e w4 ⟨rfl, L4, O4⟩
  clear HD a0 a1 a2 a3 a4 a5
  have A4 := A3.off O4 hne1
  have X4 := X3.off O4 hne2
  have B4 : Below w.heap.size w w4 := O4.below hwb BB BB.size
  have hlt4 := X4.lt
  clear O4 BB L3 A3 X3 hW3
  have a0 : w4.cell? ⟨w.heap.size, 0, none⟩ = some (.int .i64 a.kind) := A4.cell rfl
  have a3 : w4.cell? ⟨w.heap.size, 3, none⟩ = some (.int .i64 a.good) := A4.cell rfl
  have a4 : w4.cell? ⟨w.heap.size, 4, none⟩ = some (.int .i64 a.n) := A4.cell rfl
  go_upto_if 24 with fail
  go_cut [6, 8] (fun c c8 wx => c = .int .i64 (tot r.2 0) ∧ Lg wx p b 2 r.2 ∧ Blk wx w2.heap.size (gC (tot r.2)) 41 ∧ Below w.heap.size w wx)
  case first =>
    by_cases h0 : r.1 = 0
    · have hb0 : (r.1 == 0) = true := by simpa using h0
      have har := around_calls a.kind 11 w4 (by omega) (by omega)
      rw [show (11 : Int).toNat = 11 from rfl] at har
      have HS0 := HS.out 0 (Or.inl rfl) h0
      have HSG : Hid (∀ x, 2 ≤ x → x ≤ 5 → tot r.2 x = tot L x + dlt a x) := fun x h1 h2 => HS.out x (Or.inr ⟨h1, h2⟩) h0
      have HR0 : Hid _ := HS0
      clear HS0
      have hk5 : rest a.kind 11 = 0 ∨ rest a.kind 11 = 1 ∨ rest a.kind 11 = 2 ∨ rest a.kind 11 = 3 ∨ 4 ≤ rest a.kind 11 := by omega
      rcases hk5 with hk | hk | hk | hk | hk
      · obtain ⟨n1, n2⟩ := HAm.out (by omega) h0
        rw [hk] at har
        have hd0 : dlt a 0 = a.n := by unfold dlt; rw [hk]; rfl
        have hdx : Hid (∀ x, 2 ≤ x → dlt a x = 0) := fun x hx => by unfold dlt; rw [hk]; exact if_neg (by omega)
        have HD0 : Hid _ := hd0
        clear hd0 hk
        go_wp2_with fail
        refine har.mono ?_
        rintro e w5 ⟨rfl, rfl⟩
        go_wp2_with fail
        go_meet
        refine ⟨?_, L4, ?_, B4⟩
        · rw [HR0.out, HD0.out]
        · rw [gC_congr (f := tot r.2) (f' := tot L) (fun x h1 h2 => by rw [HSG.out x h1 h2, hdx.out x h1]; omega)]; exact X4
      · obtain ⟨n1, n2⟩ := HAm.out (by omega) h0
        rw [hk] at har
        have hd0 : dlt a 0 = -a.n := by unfold dlt; rw [hk]; rfl
        have hdx : Hid (∀ x, 2 ≤ x → dlt a x = 0) := fun x hx => by unfold dlt; rw [hk]; exact if_neg (by omega)
        have HD0 : Hid _ := hd0
        clear hd0 hk
        go_wp2_with fail
        refine har.mono ?_
        rintro e w5 ⟨rfl, rfl⟩
        go_wp2_with fail
        go_meet
        refine ⟨?_, L4, ?_, B4⟩
        · rw [HR0.out, HD0.out, Int.sub_eq_add_neg]
        · rw [gC_congr (f := tot r.2) (f' := tot L) (fun x h1 h2 => by rw [HSG.out x h1 h2, hdx.out x h1]; omega)]; exact X4
      · obtain ⟨n1, n2⟩ := HAm.out (by omega) h0
        obtain ⟨q, hq, hq2⟩ := HGo.out (by omega) h0
        rw [hk] at har
        have hd0 : dlt a 0 = 0 := by unfold dlt; rw [hk]; exact if_neg (by omega)
        have hdx : Hid (∀ x, dlt a x = if x = 2 + q then a.n else 0) := fun x => by unfold dlt; rw [hk, hq, Int.toNat_natCast]; rfl
        have HD0 : Hid _ := hd0
        clear hd0 hk
        have h4 := HI.out.le' (partG q (by omega))
        have h5 := L4.inv.le' (partG q (by omega))
        have h6 := HSG.out (2 + q) (by omega) (by omega)
        rw [hdx.out (2 + q), if_pos rfl] at h6
        have hrs := rest_small q 4 (by omega)
        rw [hq] at a3
        have hx := X4.cell (gC_get (tot L) q (by omega))
        have fx : w4.frozen? ⟨w2.heap.size, q, none⟩ = false := X4.frozen
        have hal := around_calls q 4 w4 (by omega) (by omega)
        rw [show (4 : Int).toNat = 4 from rfl, hrs] at hal
        have hal2 := around_calls q 4 w4.drew (by omega) (by omega)
        rw [show (4 : Int).toNat = 4 from rfl, hrs] at hal2
        obtain ⟨W6, hW6, X6, L6, B6⟩ : ∃ W6, w4.setCell ⟨w2.heap.size, q, none⟩ (.int .i64 (tot L (2 + q) + a.n)) = W6 ∧ Blk W6 w2.heap.size (gC (tot r.2)) 41 ∧ Lg W6 p b 2 r.2 ∧ Below w.heap.size w W6 := by
          refine ⟨_, rfl, ?_, ⟨L4.blk.setOther (p := ⟨w2.heap.size, q, none⟩) (by show p ≠ w2.heap.size; omega) _, L4.row.setOther (p := ⟨w2.heap.size, q, none⟩) (by show b ≠ w2.heap.size; omega) _, L4.ne, L4.inv⟩, B4.setCell (p := ⟨w2.heap.size, q, none⟩) (by show w.heap.size ≤ w2.heap.size; omega) _⟩
          have := X4.set q (.int .i64 (tot L (2 + q) + a.n))
          rw [gC_set _ q (by omega), gC_congr (f' := tot r.2) (fun x h1 h2 => by
            rw [HSG.out x h1 h2, hdx.out x]
            by_cases e : x = 2 + q
            · rw [if_pos e, if_pos e, e]; try omega
            · rw [if_neg e, if_neg e]; omega)] at this
          exact this
        have A6 : Hid (Blk W6 w.heap.size #[.int .i64 a.kind, .int .i64 a.who, .int .i64 a.dst, .int .i64 q, .int .i64 a.n, .string a.text] 36) := by
          show Blk _ _ _ _
          rw [← hW6, ← hq]
          exact A4.setOther (p := ⟨w2.heap.size, q, none⟩) (by show w.heap.size ≠ w2.heap.size; omega) _
        have HL6 : Hid _ := L6
        have HX6 : Hid _ := X6
        have H6 : Hid _ := h6
        clear hq hrs h6 L6 X6
        generalize hT : tot L (2 + q) = tq at *
        have HTq : Hid _ := hT
        clear hT
        go_wp2_with fail
        refine har.mono ?_
        rintro e w5 ⟨rfl, rfl⟩
        go_wp2_with fail
        have fx2 : w5.drew.frozen? ⟨w2.heap.size, q, none⟩ = false := fx
        have hx2 : w5.drew.cell? ⟨w2.heap.size, q, none⟩ = some (.int .i64 tq) := hx
        refine wp_region_held_drew (S := (fun wx => wx.cell? ⟨w.heap.size, 3, none⟩ = some (.int .i64 q) ∧ wx.cell? ⟨w.heap.size, 4, none⟩ = some (.int .i64 a.n))) (by kernel_rfl) ⟨a3, a4⟩ (fun hS => ?_)
        refine wpAnyH_take (i := 0) (v := .pointer (some ⟨w.heap.size, 3, none⟩)) rfl (by kernel_rfl) (by kernel_rfl) (by kernel_rfl) (fun _ _ _ h => h) (Or.inl ⟨by rfl, fun w hS => by obtain ⟨s0, s1⟩ := hS; go_simp⟩) hS ?_
        refine wpAnyH_take (i := 1) (v := .int .i64 q) rfl (by kernel_rfl) (by kernel_rfl) (by kernel_rfl) (fun _ _ _ h => h) (Or.inl ⟨by rfl, fun w hS => by obtain ⟨s0, s1⟩ := hS; go_simp⟩) hS ?_
        refine wpAnyH_take (i := 3) (v := .pointer (some ⟨w.heap.size, 3, none⟩)) rfl (by kernel_rfl) (by kernel_rfl) (by kernel_rfl) (fun _ _ _ h => h) (Or.inl ⟨by rfl, fun w hS => by obtain ⟨s0, s1⟩ := hS; go_simp⟩) hS ?_
        refine wpAnyH_take (i := 4) (v := .int .i64 q) rfl (by kernel_rfl) (by kernel_rfl) (by kernel_rfl) (fun _ _ _ h => h) (Or.inl ⟨by rfl, fun w hS => by obtain ⟨s0, s1⟩ := hS; go_simp⟩) hS ?_
        refine wpAnyH_take (i := 8) (v := .pointer (some ⟨w.heap.size, 4, none⟩)) rfl (by kernel_rfl) (by kernel_rfl) (by kernel_rfl) (fun _ _ _ h => h) (Or.inl ⟨by rfl, fun w hS => by obtain ⟨s0, s1⟩ := hS; go_simp⟩) hS ?_
        refine wpAnyH_take (i := 9) (v := .int .i64 a.n) rfl (by kernel_rfl) (by kernel_rfl) (by kernel_rfl) (fun _ _ _ h => h) (Or.inl ⟨by rfl, fun w hS => by obtain ⟨s0, s1⟩ := hS; go_simp⟩) hS ?_
        refine wpAnyH_ready (rs := [2]) (by kernel_rfl) (by simp) ?_
        refine AllReadyH.cons rfl (fun K hK => ?_) AllReadyH.nil
        go_simp
        refine hal2.mono ?_
        rintro e w7 ⟨rfl, rfl⟩
        refine hK.out _ _ hS (fun hS => ?_)
        clear hK
        refine wpAnyH_ready (rs := [5]) (by kernel_rfl) (by simp) ?_
        refine AllReadyH.cons rfl (fun K hK => ?_) AllReadyH.nil
        go_simp
        refine hal2.mono ?_
        rintro e w7 ⟨rfl, rfl⟩
        refine hK.out _ _ hS (fun hS => ?_)
        clear hK
        refine wpAnyH_take (i := 6) (v := .pointer (some ⟨w2.heap.size, q, none⟩)) rfl (by kernel_rfl) (by kernel_rfl) (by kernel_rfl) (fun _ _ _ h => h) (Or.inl ⟨by rfl, fun w hS => by obtain ⟨s0, s1⟩ := hS; go_simp; intro h; omega⟩) hS ?_
        refine wpAnyH_ready (rs := [7]) (by kernel_rfl) (by simp) ?_
        refine AllReadyH.cons rfl (fun K hK => ?_) AllReadyH.nil
        go_simp
        refine hK.out _ _ hS (fun hS => ?_)
        clear hK
        refine wpAnyH_take (i := 10) (v := .int .i64 (tq + a.n)) rfl (by kernel_rfl) (by kernel_rfl) (by kernel_rfl) (fun _ _ _ h => h) (Or.inl ⟨by rfl, fun w hS => by obtain ⟨s0, s1⟩ := hS; go_simp; rw [IntKind.wrap_i64]; omega⟩) hS ?_
        refine wpAnyH_take (i := 11) (v := .pointer (some ⟨w2.heap.size, q, none⟩)) rfl (by kernel_rfl) (by kernel_rfl) (by kernel_rfl) (fun _ _ _ h => h) (Or.inl ⟨by rfl, fun w hS => by obtain ⟨s0, s1⟩ := hS; go_simp; intro h; omega⟩) hS ?_
        refine wpAnyH_ready (rs := [12]) (by kernel_rfl) (by simp) ?_
        refine AllReadyH.cons rfl (fun K hK => ?_) AllReadyH.nil
        go_simp
        refine hK.out _ _ ⟨A6.out.cell rfl, A6.out.cell rfl⟩ (fun hS => ?_)
        clear hK
        refine wpAnyH_done (by kernel_rfl) ?_ _
        go_wp2_with fail
        go_meet
        refine ⟨?_, HL6.out.drew, Blk.drew HX6.out, B6.drew⟩
        rw [HR0.out, HD0.out]; simp
      · obtain ⟨n1, n2⟩ := HAm.out (by omega) h0
        obtain ⟨q, hq, hq2⟩ := HGo.out (by omega) h0
        rw [hk] at har
        have hd0 : dlt a 0 = 0 := by unfold dlt; rw [hk]; exact if_neg (by omega)
        have hdx : Hid (∀ x, dlt a x = if x = 2 + q then -a.n else 0) := fun x => by unfold dlt; rw [hk, hq, Int.toNat_natCast]; rfl
        have HD0 : Hid _ := hd0
        clear hd0 hk
        have h4 := HI.out.le' (partG q (by omega))
        have h5 := L4.inv.le' (partG q (by omega))
        have h6 := HSG.out (2 + q) (by omega) (by omega)
        rw [hdx.out (2 + q), if_pos rfl] at h6
        have hrs := rest_small q 4 (by omega)
        rw [hq] at a3
        have hx := X4.cell (gC_get (tot L) q (by omega))
        have fx : w4.frozen? ⟨w2.heap.size, q, none⟩ = false := X4.frozen
        have hal := around_calls q 4 w4 (by omega) (by omega)
        rw [show (4 : Int).toNat = 4 from rfl, hrs] at hal
        have hal2 := around_calls q 4 w4.drew (by omega) (by omega)
        rw [show (4 : Int).toNat = 4 from rfl, hrs] at hal2
        obtain ⟨W6, hW6, X6, L6, B6⟩ : ∃ W6, w4.setCell ⟨w2.heap.size, q, none⟩ (.int .i64 (tot L (2 + q) - a.n)) = W6 ∧ Blk W6 w2.heap.size (gC (tot r.2)) 41 ∧ Lg W6 p b 2 r.2 ∧ Below w.heap.size w W6 := by
          refine ⟨_, rfl, ?_, ⟨L4.blk.setOther (p := ⟨w2.heap.size, q, none⟩) (by show p ≠ w2.heap.size; omega) _, L4.row.setOther (p := ⟨w2.heap.size, q, none⟩) (by show b ≠ w2.heap.size; omega) _, L4.ne, L4.inv⟩, B4.setCell (p := ⟨w2.heap.size, q, none⟩) (by show w.heap.size ≤ w2.heap.size; omega) _⟩
          have := X4.set q (.int .i64 (tot L (2 + q) - a.n))
          rw [gC_set _ q (by omega), gC_congr (f' := tot r.2) (fun x h1 h2 => by
            rw [HSG.out x h1 h2, hdx.out x]
            by_cases e : x = 2 + q
            · rw [if_pos e, if_pos e, e]; try omega
            · rw [if_neg e, if_neg e]; omega)] at this
          exact this
        have A6 : Hid (Blk W6 w.heap.size #[.int .i64 a.kind, .int .i64 a.who, .int .i64 a.dst, .int .i64 q, .int .i64 a.n, .string a.text] 36) := by
          show Blk _ _ _ _
          rw [← hW6, ← hq]
          exact A4.setOther (p := ⟨w2.heap.size, q, none⟩) (by show w.heap.size ≠ w2.heap.size; omega) _
        have HL6 : Hid _ := L6
        have HX6 : Hid _ := X6
        have H6 : Hid _ := h6
        clear hq hrs h6 L6 X6
        generalize hT : tot L (2 + q) = tq at *
        have HTq : Hid _ := hT
        clear hT
        go_wp2_with fail
        refine har.mono ?_
        rintro e w5 ⟨rfl, rfl⟩
        go_wp2_with fail
        have fx2 : w5.drew.frozen? ⟨w2.heap.size, q, none⟩ = false := fx
        have hx2 : w5.drew.cell? ⟨w2.heap.size, q, none⟩ = some (.int .i64 tq) := hx
        refine wp_region_held_drew (S := (fun wx => wx.cell? ⟨w.heap.size, 3, none⟩ = some (.int .i64 q) ∧ wx.cell? ⟨w.heap.size, 4, none⟩ = some (.int .i64 a.n))) (by kernel_rfl) ⟨a3, a4⟩ (fun hS => ?_)
        refine wpAnyH_take (i := 0) (v := .pointer (some ⟨w.heap.size, 3, none⟩)) rfl (by kernel_rfl) (by kernel_rfl) (by kernel_rfl) (fun _ _ _ h => h) (Or.inl ⟨by rfl, fun w hS => by obtain ⟨s0, s1⟩ := hS; go_simp⟩) hS ?_
        refine wpAnyH_take (i := 1) (v := .int .i64 q) rfl (by kernel_rfl) (by kernel_rfl) (by kernel_rfl) (fun _ _ _ h => h) (Or.inl ⟨by rfl, fun w hS => by obtain ⟨s0, s1⟩ := hS; go_simp⟩) hS ?_
        refine wpAnyH_take (i := 3) (v := .pointer (some ⟨w.heap.size, 3, none⟩)) rfl (by kernel_rfl) (by kernel_rfl) (by kernel_rfl) (fun _ _ _ h => h) (Or.inl ⟨by rfl, fun w hS => by obtain ⟨s0, s1⟩ := hS; go_simp⟩) hS ?_
        refine wpAnyH_take (i := 4) (v := .int .i64 q) rfl (by kernel_rfl) (by kernel_rfl) (by kernel_rfl) (fun _ _ _ h => h) (Or.inl ⟨by rfl, fun w hS => by obtain ⟨s0, s1⟩ := hS; go_simp⟩) hS ?_
        refine wpAnyH_take (i := 8) (v := .pointer (some ⟨w.heap.size, 4, none⟩)) rfl (by kernel_rfl) (by kernel_rfl) (by kernel_rfl) (fun _ _ _ h => h) (Or.inl ⟨by rfl, fun w hS => by obtain ⟨s0, s1⟩ := hS; go_simp⟩) hS ?_
        refine wpAnyH_take (i := 9) (v := .int .i64 a.n) rfl (by kernel_rfl) (by kernel_rfl) (by kernel_rfl) (fun _ _ _ h => h) (Or.inl ⟨by rfl, fun w hS => by obtain ⟨s0, s1⟩ := hS; go_simp⟩) hS ?_
        refine wpAnyH_ready (rs := [2]) (by kernel_rfl) (by simp) ?_
        refine AllReadyH.cons rfl (fun K hK => ?_) AllReadyH.nil
        go_simp
        refine hal2.mono ?_
        rintro e w7 ⟨rfl, rfl⟩
        refine hK.out _ _ hS (fun hS => ?_)
        clear hK
        refine wpAnyH_ready (rs := [5]) (by kernel_rfl) (by simp) ?_
        refine AllReadyH.cons rfl (fun K hK => ?_) AllReadyH.nil
        go_simp
        refine hal2.mono ?_
        rintro e w7 ⟨rfl, rfl⟩
        refine hK.out _ _ hS (fun hS => ?_)
        clear hK
        refine wpAnyH_take (i := 6) (v := .pointer (some ⟨w2.heap.size, q, none⟩)) rfl (by kernel_rfl) (by kernel_rfl) (by kernel_rfl) (fun _ _ _ h => h) (Or.inl ⟨by rfl, fun w hS => by obtain ⟨s0, s1⟩ := hS; go_simp; intro h; omega⟩) hS ?_
        refine wpAnyH_ready (rs := [7]) (by kernel_rfl) (by simp) ?_
        refine AllReadyH.cons rfl (fun K hK => ?_) AllReadyH.nil
        go_simp
        refine hK.out _ _ hS (fun hS => ?_)
        clear hK
        refine wpAnyH_take (i := 10) (v := .int .i64 (tq - a.n)) rfl (by kernel_rfl) (by kernel_rfl) (by kernel_rfl) (fun _ _ _ h => h) (Or.inl ⟨by rfl, fun w hS => by obtain ⟨s0, s1⟩ := hS; go_simp; rw [IntKind.wrap_i64]; omega⟩) hS ?_
        refine wpAnyH_take (i := 11) (v := .pointer (some ⟨w2.heap.size, q, none⟩)) rfl (by kernel_rfl) (by kernel_rfl) (by kernel_rfl) (fun _ _ _ h => h) (Or.inl ⟨by rfl, fun w hS => by obtain ⟨s0, s1⟩ := hS; go_simp; intro h; omega⟩) hS ?_
        refine wpAnyH_ready (rs := [12]) (by kernel_rfl) (by simp) ?_
        refine AllReadyH.cons rfl (fun K hK => ?_) AllReadyH.nil
        go_simp
        refine hK.out _ _ ⟨A6.out.cell rfl, A6.out.cell rfl⟩ (fun hS => ?_)
        clear hK
        refine wpAnyH_done (by kernel_rfl) ?_ _
        go_wp2_with fail
        go_meet
        refine ⟨?_, HL6.out.drew, Blk.drew HX6.out, B6.drew⟩
        rw [HR0.out, HD0.out]; simp
      · have hd0 : Hid (∀ x, dlt a x = 0) := fun x => by
          unfold dlt
          split
          · omega
          · omega
          · omega
          · omega
          · rfl
        have e0 : ((rest a.kind 11 : Int) == 0) = false := by simp; omega
        have e1 : ((rest a.kind 11 : Int) == 1) = false := by simp; omega
        have e2 : ((rest a.kind 11 : Int) == 2) = false := by simp; omega
        have e3 : ((rest a.kind 11 : Int) == 3) = false := by simp; omega
        generalize rest a.kind 11 = kk at *
        go_wp2_with fail
        refine har.mono ?_
        rintro e w5 ⟨rfl, rfl⟩
        go_wp2_with fail
        go_meet
        refine ⟨?_, L4, ?_, B4⟩
        · rw [HR0.out, hd0.out]; simp
        · rw [gC_congr (f := tot r.2) (f' := tot L) (fun x h1 h2 => by rw [HSG.out x h1 h2, hd0.out x]; omega)]; exact X4
    · have hb0 : (r.1 == 0) = false := by simpa using h0
      have he := HNo.out h0
      go_wp2_with fail
      go_meet
      refine ⟨?_, L4, ?_, B4⟩
      · rw [he]
      · rw [he]; exact X4
  case rest =>
    obtain ⟨rfl, L5, X5, B5⟩ := hcut
    rename World => w5
    clear HS HNo HGo HAm HI
    have HT : Hid _ := totals_calls w5 L5
    unfold totV gC at HT
    go_wp2_with fail
    refine Calls.mono HT.out ?_
    rintro e w6 ⟨rfl, b6⟩
    clear HT
    obtain ⟨W7, hW7, X7, B7⟩ : ∃ W7, (w6.alloc (.cells #[.int .i64 (tot r.2 2), .int .i64 (tot r.2 3), .int .i64 (tot r.2 4), .int .i64 (tot r.2 5)] 41)) = W7 ∧ Blk W7 w6.heap.size (gC (tot r.2)) 41 ∧ Below w6.heap.size w6 W7 := ⟨_, rfl, blk_new _ _ _ _ rfl, by go_grown⟩
    have Y7 := (X5.below b6).below B7
    have z5 := B5.size
    have z6 := b6.size
    have z7 := B7.size
    have BW : Hid (Below w.heap.size w W7) := (B5.trans (b6.mono (by omega))).trans (B7.mono (by omega))
    have c0 : W7.cell? ⟨w6.heap.size, 0, none⟩ = some (.int .i64 (tot r.2 2)) := X7.cell rfl
    have c1 : W7.cell? ⟨w6.heap.size, 1, none⟩ = some (.int .i64 (tot r.2 3)) := X7.cell rfl
    have c2 : W7.cell? ⟨w6.heap.size, 2, none⟩ = some (.int .i64 (tot r.2 4)) := X7.cell rfl
    have c3 : W7.cell? ⟨w6.heap.size, 3, none⟩ = some (.int .i64 (tot r.2 5)) := X7.cell rfl
    have d0 : W7.cell? ⟨w2.heap.size, 0, none⟩ = some (.int .i64 (tot r.2 2)) := Y7.cell rfl
    have d1 : W7.cell? ⟨w2.heap.size, 1, none⟩ = some (.int .i64 (tot r.2 3)) := Y7.cell rfl
    have d2 : W7.cell? ⟨w2.heap.size, 2, none⟩ = some (.int .i64 (tot r.2 4)) := Y7.cell rfl
    have d3 : W7.cell? ⟨w2.heap.size, 3, none⟩ = some (.int .i64 (tot r.2 5)) := Y7.cell rfl
    go_wp2_with fail
    refine (HA.out _).mono ?_
    rintro e w8 ⟨rfl, b8⟩
    go_wp2
    go_ret
    exact ⟨rfl, BW.out.trans (b8.mono BW.out.size)⟩
end Go.Proofs.Ytkgkflgopiabiaa
