/- WholeMarkets: in a tick without auctions a good changes hands at one price. -/
import Derived.Test.YtpekfpfhonechaaGreatHw53
import Derived.Test.YtpekfpfhonechaaGreatHwV
import Derived.BigRegion
import Derived.BigQuiet
namespace Go.Proofs.YtpekfpfhonechaaGreat
open Go.RowKit
set_option linter.unusedSimpArgs false
set_option linter.unusedVariables false

theorem accs4_gd (l : Ks) {i g : Nat} (hi : i < 4) (hg : g < 2) : (accs4 l).toArray[i * 10 + 2 + g]? = some (.int .i64 ((Led.kAt l i).n (2 + g))) := by
  rcases (show i = 0 ∨ i = 1 ∨ i = 2 ∨ i = 3 by omega) with rfl | rfl | rfl | rfl <;> rcases (show g = 0 ∨ g = 1 by omega) with rfl | rfl <;> rfl
theorem accs4_ca (l : Ks) {i : Nat} (hi : i < 4) : (accs4 l).toArray[i * 10]? = some (.int .i64 ((Led.kAt l i).n 0)) := by
  rcases (show i = 0 ∨ i = 1 ∨ i = 2 ∨ i = 3 by omega) with rfl | rfl | rfl | rfl <;> rfl
/-- Cash and pieces as numbers, before and behind. -/
def cw (l : Ks) (i : Nat) : Int := (Led.kAt l i).n 0
def gw (l : Ks) (i g : Nat) : Int := (Led.kAt l i).n (2 + g)
theorem acc_bds {g : Nat} {l : Ks} (h : Led.Inv g l) {i : Nat} (hi : i < l.length) (q : Nat) (hq : q < 4) : (0 ≤ cw l i ∧ cw l i ≤ 1099511627776) ∧ 0 ≤ gw l i q ∧ gw l i q ≤ 1099511627776 := by
  have h1 := h.le Led.part0 hi
  have h2 := h.le (partGd (q := q) hq) hi
  have h3 := h.held i hi _ _ Led.part0
  have h4 := h.held i hi _ _ (partGd (q := q) hq)
  unfold cw gw
  omega
theorem price_le {c n p : Int} (hn : n ≠ 0) (hp : 0 ≤ p) (h : c = p * n) (hc : -1099511627776 ≤ c ∧ c ≤ 1099511627776) : p ≤ 1099511627776 := by
  rcases (show 1 ≤ n ∨ 1 ≤ -n by omega) with h1 | h1
  · have := Int.mul_le_mul_of_nonneg_left h1 hp
    omega
  · have := Int.mul_le_mul_of_nonneg_left h1 hp
    rw [Int.mul_neg] at this
    omega
/-- Behind some looks at which good moved. -/
def MvS (w wr : World) (mb ba bb : Nat) (V1 V2 : Array Value) (l l2 : Ks) (k j : Nat) : Prop := ∃ m0 m1 : Bool, Blk wr mb #[.bool m0, .bool m1] 44 ∧ Blk wr ba V1 34 ∧ Blk wr bb V2 34 ∧ Below w.heap.size w wr ∧ mb ≠ ba ∧ mb ≠ bb ∧ w.heap.size ≤ mb ∧
  (m0 = false → ∀ i, i < k ∨ (i = k ∧ 0 < j) → gw l i 0 = gw l2 i 0) ∧ (m1 = false → ∀ i, i < k ∨ (i = k ∧ 1 < j) → gw l i 1 = gw l2 i 1)
theorem MvS.set {w wr : World} {mb ba bb : Nat} {V1 V2 : Array Value} {l l2 : Ks} {k : Nat} (h : MvS w wr mb ba bb V1 V2 l l2 k 0) (b : Bool) (hb : ∀ m1, Blk wr mb #[.bool false, .bool m1] 44 → b = false → gw l k 0 = gw l2 k 0) (hb1 : ∀ m1, Blk wr mb #[.bool true, .bool m1] 44 → b = true) : MvS w (wr.setCell ⟨mb, 0, none⟩ (.bool b)) mb ba bb V1 V2 l l2 k 1 := by
  obtain ⟨m0, m1, h1, h2, h3, h4, h5, h6, h7, h8, h9⟩ := h
  refine ⟨b, m1, h1.set 0 (.bool b), h2.setOther (fun e => h5 e.symm) _, h3.setOther (fun e => h6 e.symm) _, h4.setCell h7 _, h5, h6, h7, fun e i hi => ?_, fun e i hi => h9 e i (by omega)⟩
  cases m0
  · rcases hi with hi | ⟨rfl, _⟩
    · exact h8 rfl i (Or.inl hi)
    · exact hb m1 h1 e
  · have := hb1 m1 h1
    rw [this] at e
    cases e
theorem MvS.set1 {w wr : World} {mb ba bb : Nat} {V1 V2 : Array Value} {l l2 : Ks} {k : Nat} (h : MvS w wr mb ba bb V1 V2 l l2 k 1) (b : Bool) (hb : ∀ m0, Blk wr mb #[.bool m0, .bool false] 44 → b = false → gw l k 1 = gw l2 k 1) (hb1 : ∀ m0, Blk wr mb #[.bool m0, .bool true] 44 → b = true) : MvS w (wr.setCell ⟨mb, 1, none⟩ (.bool b)) mb ba bb V1 V2 l l2 (k + 1) 0 := by
  obtain ⟨m0, m1, h1, h2, h3, h4, h5, h6, h7, h8, h9⟩ := h
  refine ⟨m0, b, h1.set 1 (.bool b), h2.setOther (fun e => h5 e.symm) _, h3.setOther (fun e => h6 e.symm) _, h4.setCell h7 _, h5, h6, h7, fun e i hi => h8 e i (by omega), fun e i hi => ?_⟩
  cases m1
  · by_cases hik : i = k
    · subst hik
      exact hb m0 h1 e
    · exact h9 rfl i (Or.inl (by omega))
  · have := hb1 m0 h1
    rw [this] at e
    cases e
theorem MvS.drew {w wr : World} {mb ba bb : Nat} {V1 V2 : Array Value} {l l2 : Ks} {k j : Nat} (h : MvS w wr mb ba bb V1 V2 l l2 k j) : MvS w wr.drew mb ba bb V1 V2 l l2 k j := by
  obtain ⟨m0, m1, h1, h2, h3, h4, h5⟩ := h
  exact ⟨m0, m1, h1.drew, h2.drew, h3.drew, h4.drew, h5⟩
set_option maxRecDepth 100000 in
set_option maxHeartbeats 4000000 in
theorem markets_calls (v : Value) (ls : List Ak) (who : Int) (w : World) (hl : Aks w v ls) (hz : ls.length * 56 ≤ 140737488351232) :
    Calls Tryz.prog 3 #[v, .int .i64 who] w fun e w' => e = .returned (.bool true) ∧ Below w.heap.size w w' := by
  have HO : Hid _ := open_room v ls w hl hz
  clear hl hz
  go_enter Tryz.func3, Tryz.ntmps3
  go_wp2_with fail
  refine Calls.mono HO.out ?_
  rintro e w1 ⟨rb, X, rfl, m1, u1, b1⟩
  generalize (runW new42 (ls.take 50)).1 = H at *
  generalize (runW new42 (ls.take 50)).2 = s at *
  have c0 : w1.cell? ⟨rb, 0, none⟩ = some (.pointer (some ⟨X.p, 0, none⟩)) := m1.blk.cell rfl
  have HA : Hid (∀ wx, Below w1.heap.size w1 wx → ∀ i : Nat, i < 2 → _) := fun wx hb i (hi : i < 2) => auction_hs wx (m1.below hb).hm i (by rw [m1.g2]; exact hi)
  have HM : Hid (Rom w1 w.heap.size rb X H s ∧ (∀ i, s i ≤ 50) ∧ Below w.heap.size w w1) := ⟨m1, u1, b1⟩
  have HA0 : Hid _ := HA.out w1 (Below.refl _ _) 0 (by omega)
  have HN : Hid (∀ i : Nat, (aucR H i).2.2 = false → ∀ x : Clo.Au × Int, H.ss[i]? ≠ some (some x)) := fun i h x hx => by
    unfold aucR at h
    rw [hx] at h
    cases h
  have HN0 := HN.out 0
  have HN1 := HN.out 1
  have HA1 : Hid (∀ wx, Below w1.heap.size w1 wx → _) := fun wx hb => HA.out wx hb 1 (by omega)
  clear m1 u1 b1 HO HN HA
  generalize (aucR H 0).1 = s0 at *
  generalize (aucR H 0).2.1 = n0 at *
  generalize (aucR H 0).2.2 = on0 at *
  generalize (aucR H 1).1 = s1 at *
  generalize (aucR H 1).2.1 = n1 at *
  generalize (aucR H 1).2.2 = on1 at *
  have HN : Hid ((on0 = false → ∀ x : Clo.Au × Int, H.ss[0]? ≠ some (some x)) ∧ (on1 = false → ∀ x : Clo.Au × Int, H.ss[1]? ≠ some (some x))) := ⟨HN0, HN1⟩
  clear HN0 HN1
  go_wp2_with fail
  refine Calls.mono HA0.out ?_
  rintro e w2 ⟨rfl, b2⟩
  have c02 : w2.cell? ⟨rb, 0, none⟩ = some (.pointer (some ⟨X.p, 0, none⟩)) := (b2.cell (World.block_lt_of_cell? _ _ c0)).trans c0
  have HB2 : Hid (Below w1.heap.size w1 w2) := b2
  have HA1' : Hid _ := HA1.out w2 b2
  clear b2 c0 HA0 HA1
  go_wp2_with fail
  refine Calls.mono HA1'.out ?_
  rintro e w3 ⟨rfl, b3⟩
  have B3 : Below w1.heap.size w1 w3 := HB2.out.trans (b3.mono HB2.out.size)
  have M3 := HM.out.1.below B3
  have HAc : Hid _ := accounts_room w3 M3
  obtain ⟨V1, hV1⟩ : ∃ V1, (accs4 H.l).toArray = V1 := ⟨_, rfl⟩
  have i1 : (Tryz.prog.info? 34).map (·.size) = some (accs4 H.l).toArray.size := a4_info _ _ _ _
  have i2 : (accs4 H.l).toArray.all (·.oneCell') = true := a4_one _ _ _ _
  have i3 : (#[.int .i64 0, .int .i64 0, .int .i64 0, .int .i64 0, .int .i64 0, .int .i64 0, .int .i64 0, .int .i64 0, .int .i64 0, .int .i64 0, .int .i64 0, .int .i64 0, .int .i64 0, .int .i64 0, .int .i64 0, .int .i64 0, .int .i64 0, .int .i64 0, .int .i64 0, .int .i64 0, .int .i64 0, .int .i64 0, .int .i64 0, .int .i64 0, .int .i64 0, .int .i64 0, .int .i64 0, .int .i64 0, .int .i64 0, .int .i64 0, .int .i64 0, .int .i64 0, .int .i64 0, .int .i64 0, .int .i64 0, .int .i64 0, .int .i64 0, .int .i64 0, .int .i64 0, .int .i64 0] : Array Value).size = (accs4 H.l).toArray.size := rfl
  rw [hV1] at HAc i1 i2 i3
  have HM3 : Hid (Rom w3 w.heap.size rb X H s ∧ Below w.heap.size w w3) := ⟨M3, HM.out.2.2.trans (B3.mono HM.out.2.2.size)⟩
  have HV1 : Hid _ := hV1
  clear b3 B3 M3 HB2 HA1' c02 hV1
  go_wp2_with fail
  refine Calls.mono HAc.out ?_
  rintro e w4 ⟨rfl, b4⟩
  obtain ⟨W5, hW5⟩ : ∃ W5, (w4.alloc (.cells #[.int .i64 0, .int .i64 0, .int .i64 0, .int .i64 0, .int .i64 0, .int .i64 0, .int .i64 0, .int .i64 0, .int .i64 0, .int .i64 0, .int .i64 0, .int .i64 0, .int .i64 0, .int .i64 0, .int .i64 0, .int .i64 0, .int .i64 0, .int .i64 0, .int .i64 0, .int .i64 0, .int .i64 0, .int .i64 0, .int .i64 0, .int .i64 0, .int .i64 0, .int .i64 0, .int .i64 0, .int .i64 0, .int .i64 0, .int .i64 0, .int .i64 0, .int .i64 0, .int .i64 0, .int .i64 0, .int .i64 0, .int .i64 0, .int .i64 0, .int .i64 0, .int .i64 0, .int .i64 0] 34)).setRow w4.heap.size V1 = W5 := ⟨_, rfl⟩
  have X4 : Blk (w4.alloc (.cells #[.int .i64 0, .int .i64 0, .int .i64 0, .int .i64 0, .int .i64 0, .int .i64 0, .int .i64 0, .int .i64 0, .int .i64 0, .int .i64 0, .int .i64 0, .int .i64 0, .int .i64 0, .int .i64 0, .int .i64 0, .int .i64 0, .int .i64 0, .int .i64 0, .int .i64 0, .int .i64 0, .int .i64 0, .int .i64 0, .int .i64 0, .int .i64 0, .int .i64 0, .int .i64 0, .int .i64 0, .int .i64 0, .int .i64 0, .int .i64 0, .int .i64 0, .int .i64 0, .int .i64 0, .int .i64 0, .int .i64 0, .int .i64 0, .int .i64 0, .int .i64 0, .int .i64 0, .int .i64 0] 34)) w4.heap.size #[.int .i64 0, .int .i64 0, .int .i64 0, .int .i64 0, .int .i64 0, .int .i64 0, .int .i64 0, .int .i64 0, .int .i64 0, .int .i64 0, .int .i64 0, .int .i64 0, .int .i64 0, .int .i64 0, .int .i64 0, .int .i64 0, .int .i64 0, .int .i64 0, .int .i64 0, .int .i64 0, .int .i64 0, .int .i64 0, .int .i64 0, .int .i64 0, .int .i64 0, .int .i64 0, .int .i64 0, .int .i64 0, .int .i64 0, .int .i64 0, .int .i64 0, .int .i64 0, .int .i64 0, .int .i64 0, .int .i64 0, .int .i64 0, .int .i64 0, .int .i64 0, .int .i64 0, .int .i64 0] 34 := blk_new _ _ _ _ rfl
  have X5 : Blk W5 w4.heap.size V1 34 := by rw [← hW5]; exact Blk.setRow X4 _
  have B5 : Below w3.heap.size w3 W5 := by rw [← hW5]; exact below_setRow (b4.alloc b4.size _) _ _ b4.size
  have M5 := HM3.out.1.below B5
  have BB5 : Below w.heap.size w W5 := HM3.out.2.trans (B5.mono HM3.out.2.size)
  have hs : s (Led.rest who 4) < 1099511627776 := by have := HM.out.2.1 (Led.rest who 4); omega
  have HDo : Hid _ := do_room W5 M5 BB5.size who tkO (by decide) hs
  have hbn : ¬ X.foot w4.heap.size ∧ w4.heap.size ≠ rb := ⟨fun hf => by have := M5.hm.foot_typ X5 (by decide); exact this hf, fun e => by
    have := M5.blk
    rw [← e] at this
    have hx := X5
    unfold Blk at this hx
    rw [hx] at this
    cases this⟩
  have HX5 : Hid (Blk W5 w4.heap.size V1 34 ∧ Rom W5 w.heap.size rb X H s ∧ Below w.heap.size w W5 ∧ ¬ X.foot w4.heap.size ∧ w4.heap.size ≠ rb) := ⟨X5, M5, BB5, hbn⟩
  have HTv : Hid ((∀ (i : Nat) (x : Clo.Au × Int), H.ss[i]? ≠ some (some x)) → _) := fun hno => tick_val (M5.hm.gd M5.pst) M5.bal M5.l4 M5.g2 M5.st M5.s0 hno who hs
  obtain ⟨R, hR⟩ : ∃ R, roomR H s who tkO = R := ⟨_, rfl⟩
  rw [hR] at HDo HTv
  unfold tkO at HDo
  dsimp only at HDo
  clear X5 B5 M5 BB5 hs b4 HM3 HAc hR hbn
  obtain ⟨rp, H2, s2⟩ := R
  dsimp only at HDo HTv
  go_wp2_with ((with_reducible refine st_row (ty := 34) (cs' := V1) X4 i1 i3 i2 hW5 ?_ ?_ ?_); rfl; rfl)
  clear X4 hW5
  generalize w4.heap.size = ba at *
  refine Calls.mono HDo.out ?_
  rintro e w6 ⟨rfl, X6, m6, t6, p6⟩
  have X6 : Blk w6 ba V1 34 := HX5.out.1.chg t6.chg (fun e => by
    rcases e with e | e
    · exact HX5.out.2.2.2.1 e
    · exact HX5.out.2.2.2.2 e)
  have B6 : Below w.heap.size w w6 := t6.old HX5.out.2.1 HX5.out.2.2.1 HX5.out.2.2.1.size
  have HAc2 : Hid _ := accounts_room w6 m6
  have HBd : Hid (∀ i, i < 4 → ∀ q, q < 2 → ((0 ≤ cw H.l i ∧ cw H.l i ≤ 1099511627776) ∧ 0 ≤ gw H.l i q ∧ gw H.l i q ≤ 1099511627776) ∧ ((0 ≤ cw H2.l i ∧ cw H2.l i ≤ 1099511627776) ∧ 0 ≤ gw H2.l i q ∧ gw H2.l i q ≤ 1099511627776)) := fun i hi q hq =>
    ⟨acc_bds HX5.out.2.1.hm.ha.lg.inv (by rw [HX5.out.2.1.l4]; exact hi) q (by omega), acc_bds m6.hm.ha.lg.inv (by rw [m6.l4]; exact hi) q (by omega)⟩
  have HPr : Hid (on0 = false → on1 = false → ∃ p0 p1 : Int, 0 ≤ p0 ∧ 0 ≤ p1 ∧ ∀ i, i < 4 → cw H2.l i + p0 * gw H2.l i 0 + p1 * gw H2.l i 1 = cw H.l i + p0 * gw H.l i 0 + p1 * gw H.l i 1) := fun h0 h1 => HTv.out (fun i x hx => by
    have hn := HX5.out.2.1.hm.sls.nn
    have hg := HX5.out.2.1.g2
    have hi := (List.getElem?_eq_some_iff.1 hx).1
    rcases (show i = 0 ∨ i = 1 by omega) with rfl | rfl
    · exact HN.out.1 h0 x hx
    · exact HN.out.2 h1 x hx)
  obtain ⟨V2, hV2⟩ : ∃ V2, (accs4 H2.l).toArray = V2 := ⟨_, rfl⟩
  have j1 : (Tryz.prog.info? 34).map (·.size) = some (accs4 H2.l).toArray.size := a4_info _ _ _ _
  have j2 : (accs4 H2.l).toArray.all (·.oneCell') = true := a4_one _ _ _ _
  have j3 : (#[.int .i64 0, .int .i64 0, .int .i64 0, .int .i64 0, .int .i64 0, .int .i64 0, .int .i64 0, .int .i64 0, .int .i64 0, .int .i64 0, .int .i64 0, .int .i64 0, .int .i64 0, .int .i64 0, .int .i64 0, .int .i64 0, .int .i64 0, .int .i64 0, .int .i64 0, .int .i64 0, .int .i64 0, .int .i64 0, .int .i64 0, .int .i64 0, .int .i64 0, .int .i64 0, .int .i64 0, .int .i64 0, .int .i64 0, .int .i64 0, .int .i64 0, .int .i64 0, .int .i64 0, .int .i64 0, .int .i64 0, .int .i64 0, .int .i64 0, .int .i64 0, .int .i64 0, .int .i64 0] : Array Value).size = (accs4 H2.l).toArray.size := rfl
  rw [hV2] at HAc2 j1 j2 j3
  have HV2 : Hid _ := hV2
  have HX6 : Hid (Blk w6 ba V1 34 ∧ Below w.heap.size w w6) := ⟨X6, B6⟩
  have hbl := X6.lt
  clear X6 B6 m6 t6 p6 HX5 HDo HTv HM HN hV2 i1 i2 i3
  go_wp2_with fail
  refine Calls.mono HAc2.out ?_
  rintro e w7 ⟨rfl, b7⟩
  obtain ⟨W8, hW8⟩ : ∃ W8, (w7.alloc (.cells #[.int .i64 0, .int .i64 0, .int .i64 0, .int .i64 0, .int .i64 0, .int .i64 0, .int .i64 0, .int .i64 0, .int .i64 0, .int .i64 0, .int .i64 0, .int .i64 0, .int .i64 0, .int .i64 0, .int .i64 0, .int .i64 0, .int .i64 0, .int .i64 0, .int .i64 0, .int .i64 0, .int .i64 0, .int .i64 0, .int .i64 0, .int .i64 0, .int .i64 0, .int .i64 0, .int .i64 0, .int .i64 0, .int .i64 0, .int .i64 0, .int .i64 0, .int .i64 0, .int .i64 0, .int .i64 0, .int .i64 0, .int .i64 0, .int .i64 0, .int .i64 0, .int .i64 0, .int .i64 0] 34)).setRow w7.heap.size V2 = W8 := ⟨_, rfl⟩
  have X7 : Blk (w7.alloc (.cells #[.int .i64 0, .int .i64 0, .int .i64 0, .int .i64 0, .int .i64 0, .int .i64 0, .int .i64 0, .int .i64 0, .int .i64 0, .int .i64 0, .int .i64 0, .int .i64 0, .int .i64 0, .int .i64 0, .int .i64 0, .int .i64 0, .int .i64 0, .int .i64 0, .int .i64 0, .int .i64 0, .int .i64 0, .int .i64 0, .int .i64 0, .int .i64 0, .int .i64 0, .int .i64 0, .int .i64 0, .int .i64 0, .int .i64 0, .int .i64 0, .int .i64 0, .int .i64 0, .int .i64 0, .int .i64 0, .int .i64 0, .int .i64 0, .int .i64 0, .int .i64 0, .int .i64 0, .int .i64 0] 34)) w7.heap.size #[.int .i64 0, .int .i64 0, .int .i64 0, .int .i64 0, .int .i64 0, .int .i64 0, .int .i64 0, .int .i64 0, .int .i64 0, .int .i64 0, .int .i64 0, .int .i64 0, .int .i64 0, .int .i64 0, .int .i64 0, .int .i64 0, .int .i64 0, .int .i64 0, .int .i64 0, .int .i64 0, .int .i64 0, .int .i64 0, .int .i64 0, .int .i64 0, .int .i64 0, .int .i64 0, .int .i64 0, .int .i64 0, .int .i64 0, .int .i64 0, .int .i64 0, .int .i64 0, .int .i64 0, .int .i64 0, .int .i64 0, .int .i64 0, .int .i64 0, .int .i64 0, .int .i64 0, .int .i64 0] 34 := blk_new _ _ _ _ rfl
  have Y8 : Blk W8 w7.heap.size V2 34 := by rw [← hW8]; exact Blk.setRow X7 _
  have B8 : Below w6.heap.size w6 W8 := by rw [← hW8]; exact below_setRow (b7.alloc b7.size _) _ _ b7.size
  have X8 := HX6.out.1.below B8
  have HX8 : Hid (Blk W8 ba V1 34 ∧ Blk W8 w7.heap.size V2 34 ∧ Below w.heap.size w W8 ∧ ba ≠ w7.heap.size) := ⟨X8, Y8, HX6.out.2.trans (B8.mono HX6.out.2.size), by have := b7.size; omega⟩
  have HFi : Hid _ := fun wx => fine_calls rp wx
  clear X8 Y8 B8 HX6 HAc2 b7 hbl
  have h3 : on0 = true ∨ (on0 = false ∧ on1 = true) ∨ (on0 = false ∧ on1 = false) := by cases on0 <;> cases on1 <;> simp
  rcases h3 with rfl | ⟨rfl, rfl⟩ | ⟨rfl, rfl⟩
  all_goals go_wp2_with ((with_reducible refine st_row (ty := 34) (cs' := V2) X7 j1 j3 j2 hW8 ?_ ?_ ?_); rfl; rfl)
  all_goals clear X7 hW8 j1 j2 j3
  all_goals generalize w7.heap.size = bb at *
  all_goals have HB8 : Hid (Below w.heap.size w W8) := HX8.out.2.2.1
  · clear HX8 HPr HBd HFi
    have HBu : Hid _ := busy_calls W8
    go_wp2_with fail
    refine Calls.mono HBu.out ?_
    rintro e wz ⟨rfl, bz⟩
    have BZ : Below w.heap.size w wz := HB8.out.trans (bz.mono HB8.out.size)
    go_wp2
    go_ret
    exact ⟨rfl, BZ⟩
  · clear HX8 HPr HBd HFi
    have HBu : Hid _ := busy_calls W8
    go_wp2_with fail
    refine Calls.mono HBu.out ?_
    rintro e wz ⟨rfl, bz⟩
    have BZ : Below w.heap.size w wz := HB8.out.trans (bz.mono HB8.out.size)
    go_wp2
    go_ret
    exact ⟨rfl, BZ⟩
  refine Calls.mono (HFi.out W8) ?_
  rintro e w9 ⟨rfl, rfl⟩
  cases hfi : fineR rp
  · clear HX8 HPr HBd HFi hfi
    have HBu : Hid _ := busy_calls w9
    go_wp2_with fail
    refine Calls.mono HBu.out ?_
    rintro e wz ⟨rfl, bz⟩
    have BZ : Below w.heap.size w wz := HB8.out.trans (bz.mono HB8.out.size)
    go_wp2
    go_ret
    exact ⟨rfl, BZ⟩
  obtain ⟨p0, p1, hp0, hp1, hval⟩ := HPr.out (by first | rfl | trivial) (by first | rfl | trivial)
  have HVal : Hid _ := hval
  have HP : Hid (0 ≤ p0 ∧ 0 ≤ p1) := ⟨hp0, hp1⟩
  have hM0 : MvS w (w9.alloc (.cells #[.bool false, .bool false] 44)) w9.heap.size ba bb V1 V2 H.l H2.l 0 0 := by
    obtain ⟨x1, x2, x3, x4⟩ := HX8.out
    refine ⟨false, false, blk_new _ _ _ _ rfl, x1.alloc _, x2.alloc _, x3.alloc x3.size _, by have := x1.lt; omega, by have := x2.lt; omega, x3.size, fun _ i hi => by omega, fun _ i hi => by omega⟩
  have HQ0 : Hid _ := hM0
  clear HPr HFi hfi hval hp0 hp1 hM0 HX8
  go_wp2_with fail
  generalize w9.alloc (.cells #[.bool false, .bool false] 44) = W10 at *
  generalize w9.heap.size = mb at *
  go_loopw [18] (fun i wr => ∃ k : Nat, k ≤ 4 ∧ i = .int .i64 k ∧ Hid (MvS w wr mb ba bb V1 V2 H.l H2.l k 0)) (fun i _ => 4 - (intOf i).toNat)
  case atStart => exact ⟨0, by omega, rfl, HQ0⟩
  case round =>
    clear HQ0
    obtain ⟨k, hk, rfl, HQ⟩ := hrel
    by_cases hlt : k < 4
    · have hd1 : decide ((k : Int) < 4) = true := by simp only [decide_eq_true_eq]; omega
      go_wp2_with fail
      go_loopw [19] (fun i wr => ∃ j : Nat, j ≤ 2 ∧ i = .int .i64 j ∧ Hid (if j = 2 then MvS w wr mb ba bb V1 V2 H.l H2.l (k + 1) 0 else MvS w wr mb ba bb V1 V2 H.l H2.l k j)) (fun i _ => 2 - (intOf i).toNat)
      case atStart => exact ⟨0, by omega, rfl, HQ⟩
      case round =>
        clear HQ
        obtain ⟨j, hj, rfl, HQ⟩ := hrel
        rcases (show j = 0 ∨ j = 1 ∨ j = 2 by omega) with rfl | rfl | rfl
        · have hq : MvS w wr mb ba bb V1 V2 H.l H2.l k 0 := HQ.out
          have HQ1 : Hid (MvS w wr mb ba bb V1 V2 H.l H2.l k 0) := hq
          obtain ⟨m0, m1, h1, h2, h3, h4, _⟩ := hq
          have c1 : wr.cell? ⟨ba, k * 10 + 2, none⟩ = some (.int .i64 (gw H.l k 0)) := h2.cell (by rw [← HV1.out]; exact accs4_gd H.l hlt (g := 0) (by omega))
          have c2 : wr.cell? ⟨bb, k * 10 + 2, none⟩ = some (.int .i64 (gw H2.l k 0)) := h3.cell (by rw [← HV2.out]; exact accs4_gd H2.l hlt (g := 0) (by omega))
          have c3 : wr.cell? ⟨mb, 0, none⟩ = some (.bool m0) := h1.cell rfl
          have c4 : wr.frozen? ⟨mb, 0, none⟩ = false := h1.frozen
          have H1 : Hid (Blk wr mb #[.bool m0, .bool m1] 44) := h1
          clear h1 h2 h3 h4 HQ
          cases m0
          · have HE : Hid (MvS w (wr.setCell ⟨mb, 0, none⟩ (.bool (gw H.l k 0 != gw H2.l k 0))).drew mb ba bb V1 V2 H.l H2.l k 1) := (HQ1.out.set _ (fun _ _ h => by simpa using h) (fun m hm => by
              have := H1.out.symm.trans hm
              simp at this)).drew
            generalize gw H.l k 0 = gx at *
            generalize gw H2.l k 0 = gy at *
            go_wp2_with fail
            go_region
            go_wp2
            exact ⟨⟨0 + 1, by omega, rfl, HE⟩, by simp [intOf]⟩
          · have HE : Hid (MvS w (wr.setCell ⟨mb, 0, none⟩ (.bool true)).drew mb ba bb V1 V2 H.l H2.l k 1) := (HQ1.out.set true (fun m hm _ => by
              have := H1.out.symm.trans hm
              simp at this) (fun _ _ => rfl)).drew
            go_wp2_with fail
            go_region
            go_wp2
            exact ⟨⟨0 + 1, by omega, rfl, HE⟩, by simp [intOf]⟩
        · have hq : MvS w wr mb ba bb V1 V2 H.l H2.l k 1 := HQ.out
          have HQ1 : Hid (MvS w wr mb ba bb V1 V2 H.l H2.l k 1) := hq
          obtain ⟨m0, m1, h1, h2, h3, h4, _⟩ := hq
          have c1 : wr.cell? ⟨ba, k * 10 + 2 + 1, none⟩ = some (.int .i64 (gw H.l k 1)) := h2.cell (by rw [← HV1.out]; exact accs4_gd H.l hlt (g := 1) (by omega))
          have c2 : wr.cell? ⟨bb, k * 10 + 2 + 1, none⟩ = some (.int .i64 (gw H2.l k 1)) := h3.cell (by rw [← HV2.out]; exact accs4_gd H2.l hlt (g := 1) (by omega))
          have c1' : wr.cell? ⟨ba, k * 10 + 3, none⟩ = some (.int .i64 (gw H.l k 1)) := c1
          have c2' : wr.cell? ⟨bb, k * 10 + 3, none⟩ = some (.int .i64 (gw H2.l k 1)) := c2
          have c3 : wr.cell? ⟨mb, 1, none⟩ = some (.bool m1) := h1.cell rfl
          have c4 : wr.frozen? ⟨mb, 1, none⟩ = false := h1.frozen
          have H1 : Hid (Blk wr mb #[.bool m0, .bool m1] 44) := h1
          clear h1 h2 h3 h4 HQ
          cases m1
          · have HE : Hid (MvS w (wr.setCell ⟨mb, 1, none⟩ (.bool (gw H.l k 1 != gw H2.l k 1))).drew mb ba bb V1 V2 H.l H2.l (k + 1) 0) := (HQ1.out.set1 _ (fun _ _ h => by simpa using h) (fun m hm => by
              have := H1.out.symm.trans hm
              simp at this)).drew
            generalize gw H.l k 1 = gx at *
            generalize gw H2.l k 1 = gy at *
            go_wp2_with fail
            go_region
            go_wp2
            exact ⟨⟨1 + 1, by omega, rfl, HE⟩, by simp [intOf]⟩
          · have HE : Hid (MvS w (wr.setCell ⟨mb, 1, none⟩ (.bool true)).drew mb ba bb V1 V2 H.l H2.l (k + 1) 0) := (HQ1.out.set1 true (fun m hm _ => by
              have := H1.out.symm.trans hm
              simp at this) (fun _ _ => rfl)).drew
            go_wp2_with fail
            go_region
            go_wp2
            exact ⟨⟨1 + 1, by omega, rfl, HE⟩, by simp [intOf]⟩
        · have hq : MvS w wr mb ba bb V1 V2 H.l H2.l (k + 1) 0 := HQ.out
          have HE : Hid (MvS w wr mb ba bb V1 V2 H.l H2.l (k + 1) 0) := hq
          clear HQ hq
          go_wp2
          exact ⟨⟨k + 1, by omega, by norm_cast, HE⟩, by simp [intOf]; omega⟩
    · have hd1 : decide ((k : Int) < 4) = false := by simp only [decide_eq_false_iff_not]; omega
      have ek : k = 4 := by omega
      subst ek
      obtain ⟨m0, m1, h1, h2, h3, h4, _, _, _, e0, e1⟩ := HQ.out
      have c1 : wr.cell? ⟨mb, 0, none⟩ = some (.bool m0) := h1.cell rfl
      have c2 : wr.cell? ⟨mb, 1, none⟩ = some (.bool m1) := h1.cell rfl
      obtain ⟨W11, hW11⟩ : ∃ W11, W11 = wr := ⟨_, rfl⟩
      subst hW11
      have HB11 : Hid (Below w.heap.size w W11) := h4
      have HY : Hid (Blk W11 ba V1 34 ∧ Blk W11 bb V2 34 ∧ Below w.heap.size w W11) := ⟨h2, h3, h4⟩
      clear h1 h2 h3 h4 HQ
      cases m1
      · have hoth : ∀ i, i < 4 → gw H2.l i 1 = gw H.l i 1 := fun i hi => (e1 rfl i (Or.inl hi)).symm
        clear e0 e1
        cases m0
        · have hc : ∀ i, i < 4 → cw H.l i - cw H2.l i = p0 * (gw H2.l i 0 - gw H.l i 0) := fun i hi => by
            have h1 := HVal.out i hi
            have h2 := hoth i hi
            rw [h2] at h1
            rw [Int.mul_sub]
            omega
          have hp : 0 ≤ p0 := HP.out.1
          have HC : Hid _ := hc
          clear hoth hc HVal HP
          go_wp2_with fail
          go_loopw [20, 21] (fun pr i wr => ∃ k : Nat, k ≤ 4 ∧ i = .int .i64 k ∧ Hid (Blk wr ba V1 34 ∧ Blk wr bb V2 34 ∧ Below w.heap.size w wr) ∧ (pr = .int .i64 (-1) ∨ pr = .int .i64 p0)) (fun _ i _ => 4 - (intOf i).toNat)
          case atStart => exact ⟨0, by omega, rfl, HY, Or.inl rfl⟩
          case round =>
            clear HY
            obtain ⟨k, hk, rfl, HY, hpr⟩ := hrel
            by_cases hlt : k < 4
            · have hd1 : decide ((k : Int) < 4) = true := by simp only [decide_eq_true_eq]; omega
              have c1 : wr.cell? ⟨ba, k * 10 + 2, none⟩ = some (.int .i64 (gw H.l k 0)) := HY.out.1.cell (by rw [← HV1.out]; exact accs4_gd H.l hlt (g := 0) (by omega))
              have c2 : wr.cell? ⟨bb, k * 10 + 2, none⟩ = some (.int .i64 (gw H2.l k 0)) := HY.out.2.1.cell (by rw [← HV2.out]; exact accs4_gd H2.l hlt (g := 0) (by omega))
              have c5 : wr.cell? ⟨ba, k * 10, none⟩ = some (.int .i64 (cw H.l k)) := HY.out.1.cell (by rw [← HV1.out]; exact accs4_ca H.l hlt)
              have c6 : wr.cell? ⟨bb, k * 10, none⟩ = some (.int .i64 (cw H2.l k)) := HY.out.2.1.cell (by rw [← HV2.out]; exact accs4_ca H2.l hlt)
              obtain ⟨⟨⟨a1, a2⟩, a3, a4⟩, ⟨a5, a6⟩, a7, a8⟩ := HBd.out k hlt 0 (by omega)
              have hcv := HC.out k hlt
              generalize gw H.l k 0 = gx at *
              generalize gw H2.l k 0 = gy at *
              generalize cw H.l k = cx at *
              generalize cw H2.l k = cy at *
              obtain ⟨n, hn'⟩ : ∃ n, gy - gx = n := ⟨_, rfl⟩
              obtain ⟨c, hc'⟩ : ∃ c, cx - cy = c := ⟨_, rfl⟩
              rw [hn', hc'] at hcv
              have hwn : IntKind.i64.wrap (gy - gx) = n := by rw [IntKind.wrap_i64]; omega
              have hwc : IntKind.i64.wrap (cx - cy) = c := by rw [IntKind.wrap_i64]; omega
              have hcb : -1099511627776 ≤ c ∧ c ≤ 1099511627776 := by omega
              have HYd : Hid (∀ z, Blk (wr.drewN z) ba V1 34 ∧ Blk (wr.drewN z) bb V2 34 ∧ Below w.heap.size w (wr.drewN z)) := fun z => by
                have hb : Below wr.heap.size wr (wr.drewN z) := ⟨rfl, rfl, rfl, Nat.le_refl _, fun _ _ => rfl⟩
                exact ⟨HY.out.1.below hb, HY.out.2.1.below hb, HY.out.2.2.trans (hb.mono HY.out.2.2.size)⟩
              clear hn' hc' a1 a2 a3 a4 a5 a6 a7 a8 HY
              by_cases hn : n = 0
              · subst hn
                have hc0 : c = 0 := by rw [hcv]; simp
                subst hc0
                clear hcv hcb
                go_wp2_with fail
                go_quiet (fail)
                go_wp2_with fail
                go_quiet (fail)
                go_wp2
                exact ⟨⟨k + 1, by omega, by norm_cast, HYd.out _, hpr⟩, by simp [intOf]; omega⟩
              · obtain ⟨ht, hdv⟩ := one_price hn hp hcv
                have hpb : p0 ≤ 1099511627776 := price_le hn hp hcv hcb
                have hwp : IntKind.i64.wrap p0 = p0 := by rw [IntKind.wrap_i64]; omega
                have hn0 : (n == 0) = false := by simpa using hn
                have hnn : (n != 0) = true := by simpa using hn
                have hnd : decide (n = 0) = false := decide_eq_false hn
                have hp0 : decide (p0 < 0) = false := decide_eq_false (by omega)
                have hp1 : decide (0 ≤ p0) = true := decide_eq_true hp
                have hp2 : decide (p0 ≥ 0) = true := decide_eq_true hp
                clear hcv hcb hpb
                rcases hpr with rfl | rfl
                · go_wp2_with fail
                  go_quiet (fail)
                  go_wp2_with fail
                  go_quiet (fail)
                  go_wp2
                  exact ⟨⟨k + 1, by omega, by norm_cast, HYd.out _, Or.inr rfl⟩, by simp [intOf]; omega⟩
                · go_wp2_with fail
                  go_quiet (fail)
                  go_wp2_with fail
                  go_quiet (fail)
                  go_wp2
                  exact ⟨⟨k + 1, by omega, by norm_cast, HYd.out _, Or.inr rfl⟩, by simp [intOf]; omega⟩
            · have hd1 : decide ((k : Int) < 4) = false := by simp only [decide_eq_false_iff_not]; omega
              have HBL : Hid (Below w.heap.size w wr) := HY.out.2.2
              clear HY
              have HBu : Hid _ := busy_calls wr
              go_wp2_with fail
              refine Calls.mono HBu.out ?_
              rintro e wz ⟨rfl, bz⟩
              have BZ : Below w.heap.size w wz := HBL.out.trans (bz.mono HBL.out.size)
              go_wp2
              go_ret
              exact ⟨rfl, BZ⟩
        · have hc : ∀ i, i < 4 → cw H.l i - cw H2.l i = p0 * (gw H2.l i 0 - gw H.l i 0) := fun i hi => by
            have h1 := HVal.out i hi
            have h2 := hoth i hi
            rw [h2] at h1
            rw [Int.mul_sub]
            omega
          have hp : 0 ≤ p0 := HP.out.1
          have HC : Hid _ := hc
          clear hoth hc HVal HP
          go_wp2_with fail
          go_loopw [20, 21] (fun pr i wr => ∃ k : Nat, k ≤ 4 ∧ i = .int .i64 k ∧ Hid (Blk wr ba V1 34 ∧ Blk wr bb V2 34 ∧ Below w.heap.size w wr) ∧ (pr = .int .i64 (-1) ∨ pr = .int .i64 p0)) (fun _ i _ => 4 - (intOf i).toNat)
          case atStart => exact ⟨0, by omega, rfl, HY, Or.inl rfl⟩
          case round =>
            clear HY
            obtain ⟨k, hk, rfl, HY, hpr⟩ := hrel
            by_cases hlt : k < 4
            · have hd1 : decide ((k : Int) < 4) = true := by simp only [decide_eq_true_eq]; omega
              have c1 : wr.cell? ⟨ba, k * 10 + 2, none⟩ = some (.int .i64 (gw H.l k 0)) := HY.out.1.cell (by rw [← HV1.out]; exact accs4_gd H.l hlt (g := 0) (by omega))
              have c2 : wr.cell? ⟨bb, k * 10 + 2, none⟩ = some (.int .i64 (gw H2.l k 0)) := HY.out.2.1.cell (by rw [← HV2.out]; exact accs4_gd H2.l hlt (g := 0) (by omega))
              have c5 : wr.cell? ⟨ba, k * 10, none⟩ = some (.int .i64 (cw H.l k)) := HY.out.1.cell (by rw [← HV1.out]; exact accs4_ca H.l hlt)
              have c6 : wr.cell? ⟨bb, k * 10, none⟩ = some (.int .i64 (cw H2.l k)) := HY.out.2.1.cell (by rw [← HV2.out]; exact accs4_ca H2.l hlt)
              obtain ⟨⟨⟨a1, a2⟩, a3, a4⟩, ⟨a5, a6⟩, a7, a8⟩ := HBd.out k hlt 0 (by omega)
              have hcv := HC.out k hlt
              generalize gw H.l k 0 = gx at *
              generalize gw H2.l k 0 = gy at *
              generalize cw H.l k = cx at *
              generalize cw H2.l k = cy at *
              obtain ⟨n, hn'⟩ : ∃ n, gy - gx = n := ⟨_, rfl⟩
              obtain ⟨c, hc'⟩ : ∃ c, cx - cy = c := ⟨_, rfl⟩
              rw [hn', hc'] at hcv
              have hwn : IntKind.i64.wrap (gy - gx) = n := by rw [IntKind.wrap_i64]; omega
              have hwc : IntKind.i64.wrap (cx - cy) = c := by rw [IntKind.wrap_i64]; omega
              have hcb : -1099511627776 ≤ c ∧ c ≤ 1099511627776 := by omega
              have HYd : Hid (∀ z, Blk (wr.drewN z) ba V1 34 ∧ Blk (wr.drewN z) bb V2 34 ∧ Below w.heap.size w (wr.drewN z)) := fun z => by
                have hb : Below wr.heap.size wr (wr.drewN z) := ⟨rfl, rfl, rfl, Nat.le_refl _, fun _ _ => rfl⟩
                exact ⟨HY.out.1.below hb, HY.out.2.1.below hb, HY.out.2.2.trans (hb.mono HY.out.2.2.size)⟩
              clear hn' hc' a1 a2 a3 a4 a5 a6 a7 a8 HY
              by_cases hn : n = 0
              · subst hn
                have hc0 : c = 0 := by rw [hcv]; simp
                subst hc0
                clear hcv hcb
                go_wp2_with fail
                go_quiet (fail)
                go_wp2_with fail
                go_quiet (fail)
                go_wp2
                exact ⟨⟨k + 1, by omega, by norm_cast, HYd.out _, hpr⟩, by simp [intOf]; omega⟩
              · obtain ⟨ht, hdv⟩ := one_price hn hp hcv
                have hpb : p0 ≤ 1099511627776 := price_le hn hp hcv hcb
                have hwp : IntKind.i64.wrap p0 = p0 := by rw [IntKind.wrap_i64]; omega
                have hn0 : (n == 0) = false := by simpa using hn
                have hnn : (n != 0) = true := by simpa using hn
                have hnd : decide (n = 0) = false := decide_eq_false hn
                have hp0 : decide (p0 < 0) = false := decide_eq_false (by omega)
                have hp1 : decide (0 ≤ p0) = true := decide_eq_true hp
                have hp2 : decide (p0 ≥ 0) = true := decide_eq_true hp
                clear hcv hcb hpb
                rcases hpr with rfl | rfl
                · go_wp2_with fail
                  go_quiet (fail)
                  go_wp2_with fail
                  go_quiet (fail)
                  go_wp2
                  exact ⟨⟨k + 1, by omega, by norm_cast, HYd.out _, Or.inr rfl⟩, by simp [intOf]; omega⟩
                · go_wp2_with fail
                  go_quiet (fail)
                  go_wp2_with fail
                  go_quiet (fail)
                  go_wp2
                  exact ⟨⟨k + 1, by omega, by norm_cast, HYd.out _, Or.inr rfl⟩, by simp [intOf]; omega⟩
            · have hd1 : decide ((k : Int) < 4) = false := by simp only [decide_eq_false_iff_not]; omega
              have HBL : Hid (Below w.heap.size w wr) := HY.out.2.2
              clear HY
              have HBu : Hid _ := busy_calls wr
              go_wp2_with fail
              refine Calls.mono HBu.out ?_
              rintro e wz ⟨rfl, bz⟩
              have BZ : Below w.heap.size w wz := HBL.out.trans (bz.mono HBL.out.size)
              go_wp2
              go_ret
              exact ⟨rfl, BZ⟩
      · cases m0
        · have hoth : ∀ i, i < 4 → gw H2.l i 0 = gw H.l i 0 := fun i hi => (e0 rfl i (Or.inl hi)).symm
          clear e0 e1
          · have hc : ∀ i, i < 4 → cw H.l i - cw H2.l i = p1 * (gw H2.l i 1 - gw H.l i 1) := fun i hi => by
              have h1 := HVal.out i hi
              have h2 := hoth i hi
              rw [h2] at h1
              rw [Int.mul_sub]
              omega
            have hp : 0 ≤ p1 := HP.out.2
            have HC : Hid _ := hc
            clear hoth hc HVal HP
            go_wp2_with fail
            go_loopw [20, 21] (fun pr i wr => ∃ k : Nat, k ≤ 4 ∧ i = .int .i64 k ∧ Hid (Blk wr ba V1 34 ∧ Blk wr bb V2 34 ∧ Below w.heap.size w wr) ∧ (pr = .int .i64 (-1) ∨ pr = .int .i64 p1)) (fun _ i _ => 4 - (intOf i).toNat)
            case atStart => exact ⟨0, by omega, rfl, HY, Or.inl rfl⟩
            case round =>
              clear HY
              obtain ⟨k, hk, rfl, HY, hpr⟩ := hrel
              by_cases hlt : k < 4
              · have hd1 : decide ((k : Int) < 4) = true := by simp only [decide_eq_true_eq]; omega
                have c1 : wr.cell? ⟨ba, k * 10 + 2 + 1, none⟩ = some (.int .i64 (gw H.l k 1)) := HY.out.1.cell (by rw [← HV1.out]; exact accs4_gd H.l hlt (g := 1) (by omega))
                have c2 : wr.cell? ⟨bb, k * 10 + 2 + 1, none⟩ = some (.int .i64 (gw H2.l k 1)) := HY.out.2.1.cell (by rw [← HV2.out]; exact accs4_gd H2.l hlt (g := 1) (by omega))
                have c5 : wr.cell? ⟨ba, k * 10, none⟩ = some (.int .i64 (cw H.l k)) := HY.out.1.cell (by rw [← HV1.out]; exact accs4_ca H.l hlt)
                have c6 : wr.cell? ⟨bb, k * 10, none⟩ = some (.int .i64 (cw H2.l k)) := HY.out.2.1.cell (by rw [← HV2.out]; exact accs4_ca H2.l hlt)
                have c1' : wr.cell? ⟨ba, k * 10 + 3, none⟩ = some (.int .i64 (gw H.l k 1)) := c1
                have c2' : wr.cell? ⟨bb, k * 10 + 3, none⟩ = some (.int .i64 (gw H2.l k 1)) := c2
                obtain ⟨⟨⟨a1, a2⟩, a3, a4⟩, ⟨a5, a6⟩, a7, a8⟩ := HBd.out k hlt 1 (by omega)
                have hcv := HC.out k hlt
                generalize gw H.l k 1 = gx at *
                generalize gw H2.l k 1 = gy at *
                generalize cw H.l k = cx at *
                generalize cw H2.l k = cy at *
                obtain ⟨n, hn'⟩ : ∃ n, gy - gx = n := ⟨_, rfl⟩
                obtain ⟨c, hc'⟩ : ∃ c, cx - cy = c := ⟨_, rfl⟩
                rw [hn', hc'] at hcv
                have hwn : IntKind.i64.wrap (gy - gx) = n := by rw [IntKind.wrap_i64]; omega
                have hwc : IntKind.i64.wrap (cx - cy) = c := by rw [IntKind.wrap_i64]; omega
                have hcb : -1099511627776 ≤ c ∧ c ≤ 1099511627776 := by omega
                have HYd : Hid (∀ z, Blk (wr.drewN z) ba V1 34 ∧ Blk (wr.drewN z) bb V2 34 ∧ Below w.heap.size w (wr.drewN z)) := fun z => by
                  have hb : Below wr.heap.size wr (wr.drewN z) := ⟨rfl, rfl, rfl, Nat.le_refl _, fun _ _ => rfl⟩
                  exact ⟨HY.out.1.below hb, HY.out.2.1.below hb, HY.out.2.2.trans (hb.mono HY.out.2.2.size)⟩
                clear hn' hc' a1 a2 a3 a4 a5 a6 a7 a8 HY
                by_cases hn : n = 0
                · subst hn
                  have hc0 : c = 0 := by rw [hcv]; simp
                  subst hc0
                  clear hcv hcb
                  go_wp2_with fail
                  go_quiet (fail)
                  go_wp2_with fail
                  go_quiet (fail)
                  go_wp2
                  exact ⟨⟨k + 1, by omega, by norm_cast, HYd.out _, hpr⟩, by simp [intOf]; omega⟩
                · obtain ⟨ht, hdv⟩ := one_price hn hp hcv
                  have hpb : p1 ≤ 1099511627776 := price_le hn hp hcv hcb
                  have hwp : IntKind.i64.wrap p1 = p1 := by rw [IntKind.wrap_i64]; omega
                  have hn0 : (n == 0) = false := by simpa using hn
                  have hnn : (n != 0) = true := by simpa using hn
                  have hnd : decide (n = 0) = false := decide_eq_false hn
                  have hp0 : decide (p1 < 0) = false := decide_eq_false (by omega)
                  have hp1 : decide (0 ≤ p1) = true := decide_eq_true hp
                  have hp2 : decide (p1 ≥ 0) = true := decide_eq_true hp
                  clear hcv hcb hpb
                  rcases hpr with rfl | rfl
                  · go_wp2_with fail
                    go_quiet (fail)
                    go_wp2_with fail
                    go_quiet (fail)
                    go_wp2
                    exact ⟨⟨k + 1, by omega, by norm_cast, HYd.out _, Or.inr rfl⟩, by simp [intOf]; omega⟩
                  · go_wp2_with fail
                    go_quiet (fail)
                    go_wp2_with fail
                    go_quiet (fail)
                    go_wp2
                    exact ⟨⟨k + 1, by omega, by norm_cast, HYd.out _, Or.inr rfl⟩, by simp [intOf]; omega⟩
              · have hd1 : decide ((k : Int) < 4) = false := by simp only [decide_eq_false_iff_not]; omega
                have HBL : Hid (Below w.heap.size w wr) := HY.out.2.2
                clear HY
                have HBu : Hid _ := busy_calls wr
                go_wp2_with fail
                refine Calls.mono HBu.out ?_
                rintro e wz ⟨rfl, bz⟩
                have BZ : Below w.heap.size w wz := HBL.out.trans (bz.mono HBL.out.size)
                go_wp2
                go_ret
                exact ⟨rfl, BZ⟩
        · clear e0 e1
          have HBu : Hid _ := busy_calls W11
          go_wp2_with fail
          refine Calls.mono HBu.out ?_
          rintro e wz ⟨rfl, bz⟩
          have BZ : Below w.heap.size w wz := HB11.out.trans (bz.mono HB11.out.size)
          go_wp2
          go_ret
          exact ⟨rfl, BZ⟩
end Go.Proofs.YtpekfpfhonechaaGreat
