/- Sale. -/
import Derived.Test.YtpekfpfhonechaaGreatWa12
import Derived.OwnWalk
import Derived.Handy
import Derived.Laws.AppendOwn
import Derived.Deep.OwnRows
import Derived.Maps.AppendAt
namespace Go.Proofs.YtpekfpfhonechaaGreat.Clo
open Go.RowKit
set_option linter.unusedSimpArgs false
set_option linter.unusedVariables false
variable {p b : Nat} {a : Au}

/-- Sold in the first round, or with as much wanted as there is. -/
abbrev Au.plain (a : Au) : Prop := a.round = 1 ∨ a.supply - a.want = 0
theorem gaps_len (a : Au) : a.gaps.length = a.ds.length := tab_len _ _
theorem gaps_at (a : Au) {i : Nat} (hi : i < a.ds.length) : gAt a.gaps i = wasOf a.ds i - nowOf a.ds i := tab_at _ hi
theorem gaps_sum (a : Au) : sumL a.gaps = a.ahead - a.want := by
  unfold Au.gaps
  rw [sumL_tab, sumTo_sub]; rfl
theorem Inv.sh (H : Inv a) (hs : a.state = 1) (hp : ¬ a.plain) : Sh (a.supply - a.want) a.gaps := by
  have h1 := H.len
  have h2 := H.rd
  have hr : 1 < a.round := by
    have : a.round ≠ 1 := fun e => hp (Or.inl e)
    omega
  have h3 := H.ah hr
  have h4 : a.want ≤ a.supply := by
    rcases H.sta with h | h | h
    · omega
    · exact h.2
    · omega
  have h5 := H.sup
  have h6 := (H.wants (Nat.le_refl _)).1
  have h7 : sumTo (nowOf a.ds) a.ds.length = a.want := rfl
  rw [h7] at h6
  refine ⟨by rw [gaps_len]; omega, fun i hi => ?_, by omega, by omega, ?_⟩
  · rw [gaps_len] at hi
    rw [gaps_at a hi]
    have := H.dm i hi
    have := H.fall hr i hi
    omega
  · rw [gaps_sum]; omega
def Au.saleP (a : Au) : Int := if a.state = 1 then (if a.plain then a.price else a.price - a.step) else 0
def Au.saleAt (a : Au) (i : Nat) : Int := if a.state = 1 then (if a.plain then nowOf a.ds i else nowOf a.ds i + gAt (shares (a.supply - a.want) a.gaps) i) else 0
def Au.saleL (a : Au) : List Int := tab a.ds.length a.saleAt
theorem saleL_len (a : Au) : a.saleL.length = a.ds.length := tab_len _ _

set_option maxRecDepth 100000 in
set_option maxHeartbeats 1000000 in
theorem sale_over (w : World) (h : Lc w p b a) (hs : a.state ≠ 0) : Calls Tryz.prog 125 #[.pointer (some ⟨p, 0, none⟩)] w fun e w' => e = .returned (.tuple #[.int .i64 a.saleP, .slice (some ⟨w.heap.size, 0, none⟩) a.ds.length a.ds.length, .int .i64 0]) ∧ Blk w' w.heap.size (iC a.saleL) 3 ∧ Below w.heap.size w w' := by
  have hma := made_calls w h
  have hlen := h.inv.len
  have c4 : w.cell? ⟨p, 4, none⟩ = some (.int .i64 a.state) := h.blk.cell rfl
  have c5 : w.cell? ⟨p, 5, none⟩ = some (.slice (some ⟨b, 0, none⟩) a.ds.length a.ds.length) := h.blk.cell rfl
  have hmk := make_ints a.ds.length (by omega) w
  have d0 : (a.state == 0) = false := by simpa using hs
  obtain ⟨W1, hW1, X1, B1, Z1⟩ : ∃ W1, w.alloc (.cells (iC (List.replicate a.ds.length 0)) 3) = W1 ∧ Blk W1 w.heap.size (iC (over (List.replicate a.ds.length 0) (nowOf a.ds) 0)) 3 ∧ Below w.heap.size w W1 ∧ W1.heap.size = w.heap.size + 1 := ⟨_, rfl, blk_new _ _ _ _ rfl, by go_grown, by simp⟩
  have HZ : Hid _ := Z1
  clear Z1
  have L1 := h.below B1
  have g4 : W1.cell? ⟨p, 4, none⟩ = some (.int .i64 a.state) := L1.blk.cell rfl
  have g5 : W1.cell? ⟨p, 5, none⟩ = some (.slice (some ⟨b, 0, none⟩) a.ds.length a.ds.length) := L1.blk.cell rfl
  by_cases h2 : a.state = 2
  · have d2 : (a.state == 2) = true := by simpa using h2
    have HE : Hid (a.saleP = 0 ∧ a.saleL = over (List.replicate a.ds.length 0) (nowOf a.ds) 0) := by
      refine ⟨by unfold Au.saleP; rw [if_neg (by omega)], ?_⟩
      unfold Au.saleL
      refine gAt_ext (by rw [tab_len]; simp [over]) fun i hi => ?_
      rw [tab_len] at hi
      rw [tab_at _ hi]
      unfold Au.saleAt
      rw [if_neg (by omega)]
      simp only [over]
      rw [gAt_rep]
    clear h2
    go_enter Tryz.func125, Tryz.ntmps125
    go_wp2_with fail
    refine hma.mono ?_
    rintro e w1 ⟨rfl, rfl⟩
    go_wp2
    go_ret3
    rw [HE.out.1, HE.out.2]
    exact ⟨rfl, X1, B1⟩
  · have d2 : (a.state == 2) = false := by simpa using h2
    have h1 : a.state = 1 := by rcases h.inv.sta with e | e | e; exact absurd e hs; exact e.1; exact absurd e.1 h2
    have hwant : a.want ≤ a.supply := by rcases h.inv.sta with e | e | e; exact absurd e hs; exact e.2; exact absurd e.1 h2
    have hw0 : 0 ≤ a.want := (h.inv.wants (Nat.le_refl _)).1
    have hsup := h.inv.sup
    have HSH : Hid (¬ a.plain → Sh (a.supply - a.want) a.gaps) := fun e => h.inv.sh h1 e
    have HSP : Hid (a.saleP = if a.plain then a.price else a.price - a.step) := by show _ = _; unfold Au.saleP; rw [if_pos h1]
    have HSL : Hid (∀ i, a.saleAt i = if a.plain then nowOf a.ds i else nowOf a.ds i + gAt (shares (a.supply - a.want) a.gaps) i) := fun i => by unfold Au.saleAt; rw [if_pos h1]
    clear h1 h2 hs
    go_enter Tryz.func125, Tryz.ntmps125
    go_wp2_with fail
    refine hma.mono ?_
    rintro e w1 ⟨rfl, rfl⟩
    go_wp2
    go_loopw [38] (fun i wr => ∃ k : Nat, k ≤ a.ds.length ∧ i = .int .i64 k ∧ Blk wr w1.heap.size (iC (over (List.replicate a.ds.length 0) (nowOf a.ds) k)) 3 ∧ Below w1.heap.size w1 wr ∧ w1.heap.size < wr.heap.size) (fun i _ => a.ds.length - (intOf i).toNat)
    case atStart => exact ⟨0, Nat.zero_le _, rfl, X1, B1, by have := HZ.out; omega⟩
    case round =>
      obtain ⟨k, hk, rfl, Xr, br, hsz⟩ := hrel
      have Lr := h.below br
      by_cases hlt : k < a.ds.length
      · have hd : decide ((k : Int) < a.ds.length) = true := by simp only [decide_eq_true_eq]; omega
        have n0 := Lr.was hlt
        have n1 := Lr.now hlt
        obtain ⟨W2, hW2, X2, Y2, B2⟩ : ∃ W2, (wr.alloc (.cells #[.int .i64 (wasOf a.ds k), .int .i64 (nowOf a.ds k)] 83)) = W2 ∧ Blk W2 wr.heap.size #[.int .i64 (wasOf a.ds k), .int .i64 (nowOf a.ds k)] 83 ∧ Blk W2 w1.heap.size (iC (over (List.replicate a.ds.length 0) (nowOf a.ds) k)) 3 ∧ Below w1.heap.size w1 W2 := ⟨_, rfl, blk_new _ _ _ _ rfl, Xr.alloc _, br.trans (by go_grown)⟩
        have e1 : W2.cell? ⟨wr.heap.size, 1, none⟩ = some (.int .i64 (nowOf a.ds k)) := X2.cell rfl
        have x0 : W2.cell? ⟨w1.heap.size, k, none⟩ = some (.int .i64 0) := by
          have := Y2.cell (iC_get (i := k) (by rw [over_len]; simpa using hlt))
          rw [over_at _ _ _ _ (by simpa using hlt), if_neg (by omega), gAt_rep] at this
          exact this
        have f0 : W2.frozen? ⟨w1.heap.size, k, none⟩ = false := Y2.frozen
        have R1 := Y2.set k (.int .i64 (nowOf a.ds k))
        rw [iC_set] at R1
        have HR1 : Hid (Blk (W2.setCell ⟨w1.heap.size, k, none⟩ (.int .i64 (nowOf a.ds k))) w1.heap.size (iC (over (List.replicate a.ds.length 0) (nowOf a.ds) (k + 1))) 3) := R1
        have HB2 : Hid (Below w1.heap.size w1 (W2.setCell ⟨w1.heap.size, k, none⟩ (.int .i64 (nowOf a.ds k)))) := B2.setCell (p := ⟨w1.heap.size, k, none⟩) (Nat.le_refl _) _
        have HS2 : Hid (w1.heap.size < (W2.setCell ⟨w1.heap.size, k, none⟩ (.int .i64 (nowOf a.ds k))).heap.size) := by
          show _ < _
          have e : (W2.setCell ⟨w1.heap.size, k, none⟩ (.int .i64 (nowOf a.ds k))).heap.size = W2.heap.size := by simp [World.setCell]
          have := X2.lt
          omega
        clear R1 X2 Y2 Lr
        generalize wasOf a.ds k = y at *
        generalize nowOf a.ds k = x at *
        obtain ⟨W3, hW3⟩ : ∃ W3, W2.setCell ⟨w1.heap.size, k, none⟩ (.int .i64 x) = W3 := ⟨_, rfl⟩
        rw [hW3] at HR1 HB2 HS2
        go_wp2
        refine ⟨⟨k + 1, by omega, by norm_cast, HR1.out, HB2.out, HS2.out⟩, ?_⟩
        simp [intOf]; omega
      · have hd : decide ((k : Int) < a.ds.length) = false := by simp only [decide_eq_false_iff_not]; omega
        have hkk : k = a.ds.length := by omega
        subst hkk
        have hov : over (List.replicate a.ds.length 0) (nowOf a.ds) a.ds.length = tab a.ds.length (nowOf a.ds) := by
          have e := over_all (List.replicate a.ds.length 0) (nowOf a.ds)
          rw [List.length_replicate] at e
          exact e
        rw [hov] at Xr
        clear hov hlt hk X1
        obtain ⟨wq, rfl⟩ : ∃ wq, wq = wr := ⟨wr, rfl⟩
        have hne := bw_some wq
        have HD : Hid (∀ y : BW wq, _) := fun y : BW wq => demand_calls y.w (Lr.below y.h)
        have y0 := fun y : BW wq => y.cell (show wq.cell? ⟨p, 0, none⟩ = some (.int .i64 a.supply) from Lr.blk.cell rfl)
        have hwr : IntKind.i64.wrap (a.supply - a.want) = a.supply - a.want := by rw [IntKind.wrap_i64]; omega
        go_wp2_with fail
        refine wp_region_below (by kernel_rfl) (by kernel_rfl) ?_
        repeat (quiet_step (first | (go_at_call 122; exact BW.call _ (HD.out _))))
        refine wpQuiet_nil ?_
        rintro w4 ⟨⟨_, b4⟩, rfl⟩
        clear y0 HD hne
        have L4 := Lr.below b4
        have X4 := Xr.below b4
        have B4 := br.trans (b4.mono (by omega))
        have S4 := b4.size
        clear Lr Xr br b4
        have c3 : w4.cell? ⟨p, 3, none⟩ = some (.int .i64 a.round) := L4.blk.cell rfl
        by_cases hpl : a.plain
        · have HP : Hid (a.saleP = a.price ∧ a.saleL = tab a.ds.length (nowOf a.ds)) := by
            refine ⟨by rw [HSP.out, if_pos hpl], ?_⟩
            unfold Au.saleL
            refine gAt_ext (by rw [tab_len, tab_len]) fun i hi => ?_
            rw [tab_len] at hi
            rw [tab_at _ hi, tab_at _ hi, HSL.out, if_pos hpl]
          have HPR : Hid _ := price_calls w4 L4
          clear HSP HSL HSH
          rcases Classical.em (a.round = 1) with hr | hr
          · rw [hr] at c3
            clear hpl
            generalize a.supply - a.want = lft at *
            go_wp2_with fail
            refine Calls.mono HPR.out ?_
            rintro e w5 ⟨rfl, b5⟩
            go_wp2
            go_ret3
            rw [HP.out.1, HP.out.2]
            exact ⟨rfl, X4.below b5, B4.trans (b5.mono (by omega))⟩
          · have hd1 : (a.round == 1) = false := by simpa using hr
            have hl : a.supply - a.want = 0 := hpl.resolve_left hr
            have hd2 : (a.supply - a.want == 0) = true := by simpa using hl
            have HL : Hid _ := hl
            clear hl hpl
            generalize a.supply - a.want = lft at *
            go_wp2_with fail
            refine Calls.mono HPR.out ?_
            rintro e w5 ⟨rfl, b5⟩
            go_wp2
            go_ret3
            rw [HP.out.1, HP.out.2]
            exact ⟨rfl, X4.below b5, B4.trans (b5.mono (by omega))⟩
        · have hsh := HSH.out hpl
          have hr : a.round ≠ 1 := fun e => hpl (Or.inl e)
          have hl : a.supply - a.want ≠ 0 := fun e => hpl (Or.inr e)
          have hd1 : (a.round == 1) = false := by simpa using hr
          have hd2 : (a.supply - a.want == 0) = false := by simpa using hl
          have HP : Hid (a.saleP = a.last ∧ a.saleL = tab a.ds.length (fun i => nowOf a.ds i + gAt (shares (a.supply - a.want) a.gaps) i)) := by
            refine ⟨by rw [HSP.out, if_neg hpl]; unfold Au.last; rw [if_neg hr], ?_⟩
            unfold Au.saleL
            refine gAt_ext (by rw [tab_len, tab_len]) fun i hi => ?_
            rw [tab_len] at hi
            rw [tab_at _ hi, tab_at _ hi, HSL.out, if_neg hpl]
          have HG : Hid _ := gaps_calls w4 L4
          clear HSP HSL HSH hpl hl hr
          have HSHR : Hid _ := fun v w' (hv : Rd w' v a.gaps) => shares_ok v a.gaps (a.supply - a.want) w' hv hsh
          have HNB : Hid (∀ i, i < a.ds.length → 0 ≤ nowOf a.ds i ∧ nowOf a.ds i ≤ 1048576 ∧ 0 ≤ gAt (shares (a.supply - a.want) a.gaps) i ∧ gAt (shares (a.supply - a.want) a.gaps) i ≤ 1048576) := fun i hi => by
            have h1 := h.inv.dm i hi
            have h2 := hsh.each (i := i) (by rw [gaps_len]; exact hi)
            have h3 := hsh.2.1 i (by rw [gaps_len]; exact hi)
            exact ⟨h1.2.2.1, h1.2.2.2, h2.1, by omega⟩
          have HGL : Hid (a.gaps.length = a.ds.length) := gaps_len a
          have HSLn : Hid ((shares (a.supply - a.want) a.gaps).length = a.ds.length) := (shares_len _ _).trans (gaps_len a)
          clear hsh
          generalize shares (a.supply - a.want) a.gaps = SH at *
          generalize hgp : a.gaps = GP at *
          clear hgp
          generalize a.supply - a.want = lft at *
          go_wp2_with fail
          refine Calls.mono HG.out ?_
          rintro e w5 ⟨rfl, X5, b5⟩
          clear HG
          have R5 := rd_blk X5 GP.length
          rw [HGL.out] at R5
          have HS5 := HSHR.out _ _ R5
          clear HSHR
          go_wp2_with fail
          refine HS5.mono ?_
          rintro e w6 ⟨rfl, X6, b6⟩
          rw [HGL.out]
          have q5 := b5.size
          have q6 := b6.size
          have L6 := (L4.below b5).below b6
          have Y6 := (X4.below b5).below b6
          have B6 := (B4.trans (b5.mono (by omega))).trans (b6.mono (by omega))
          have K6 : w5.heap.size < w6.heap.size := X6.lt
          clear HS5 b5 b6 X4 L4 B4 X5 R5
          have hne : w1.heap.size ≠ w5.heap.size := by omega
          go_wp2
          go_loopw [77] (fun i wr => ∃ k : Nat, k ≤ a.ds.length ∧ i = .int .i64 k ∧ Blk wr w1.heap.size (iC (over (tab a.ds.length (nowOf a.ds)) (fun i => nowOf a.ds i + gAt SH i) k)) 3 ∧ Blk wr w5.heap.size (iC SH) 3 ∧ Below w1.heap.size w1 wr) (fun i _ => a.ds.length - (intOf i).toNat)
          case atStart => exact ⟨0, Nat.zero_le _, rfl, Y6, X6, B6⟩
          case round =>
            obtain ⟨k, hk, rfl, Xr, Yr, br⟩ := hrel
            by_cases hlt : k < a.ds.length
            · have hd : decide ((k : Int) < a.ds.length) = true := by simp only [decide_eq_true_eq]; omega
              have z := HNB.out k hlt
              have s0 : wr.cell? ⟨w5.heap.size, k, none⟩ = some (.int .i64 (gAt SH k)) := Yr.cell (iC_get (by rw [HSLn.out]; exact hlt))
              have x0 : wr.cell? ⟨w1.heap.size, k, none⟩ = some (.int .i64 (nowOf a.ds k)) := by
                have := Xr.cell (iC_get (i := k) (by rw [over_len, tab_len]; exact hlt))
                rw [over_at _ _ _ _ (by rw [tab_len]; exact hlt), if_neg (by omega), tab_at _ hlt] at this
                exact this
              have f0 : wr.frozen? ⟨w1.heap.size, k, none⟩ = false := Xr.frozen
              have R1 := Xr.set k (.int .i64 (nowOf a.ds k + gAt SH k))
              rw [iC_set] at R1
              have HR1 : Hid (Blk (wr.setCell ⟨w1.heap.size, k, none⟩ (.int .i64 (nowOf a.ds k + gAt SH k))) w1.heap.size (iC (over (tab a.ds.length (nowOf a.ds)) (fun i => nowOf a.ds i + gAt SH i) (k + 1))) 3) := R1
              have HY1 : Hid (Blk (wr.setCell ⟨w1.heap.size, k, none⟩ (.int .i64 (nowOf a.ds k + gAt SH k))) w5.heap.size (iC SH) 3) := Yr.setOther (p := ⟨w1.heap.size, k, none⟩) hne.symm _
              have HB2 : Hid (Below w1.heap.size w1 (wr.setCell ⟨w1.heap.size, k, none⟩ (.int .i64 (nowOf a.ds k + gAt SH k)))) := br.setCell (p := ⟨w1.heap.size, k, none⟩) (Nat.le_refl _) _
              clear R1
              generalize nowOf a.ds k = x at *
              generalize gAt SH k = y at *
              obtain ⟨W3, hW3⟩ : ∃ W3, wr.setCell ⟨w1.heap.size, k, none⟩ (.int .i64 (x + y)) = W3 := ⟨_, rfl⟩
              rw [hW3] at HR1 HY1 HB2
              go_wp2
              refine ⟨⟨k + 1, by omega, by norm_cast, HR1.out, HY1.out, HB2.out⟩, ?_⟩
              simp [intOf]; omega
            · have hd : decide ((k : Int) < a.ds.length) = false := by simp only [decide_eq_false_iff_not]; omega
              have hkk : k = a.ds.length := by omega
              subst hkk
              have hov : over (tab a.ds.length (nowOf a.ds)) (fun i => nowOf a.ds i + gAt SH i) a.ds.length = tab a.ds.length (fun i => nowOf a.ds i + gAt SH i) := by
                have e := over_all (tab a.ds.length (nowOf a.ds)) (fun i => nowOf a.ds i + gAt SH i)
                rw [tab_len] at e
                exact e
              rw [hov] at Xr
              clear hov
              have HLA : Hid _ := last_calls wr (h.below br)
              go_wp2_with fail
              refine Calls.mono HLA.out ?_
              rintro e w7 ⟨rfl, b7⟩
              go_wp2
              go_ret3
              rw [HP.out.1, HP.out.2]
              exact ⟨rfl, Xr.below b7, br.trans (b7.mono br.size)⟩
end Go.Proofs.YtpekfpfhonechaaGreat.Clo

namespace Go.Proofs.YtpekfpfhonechaaGreat.Clo
open Go.RowKit
set_option linter.unusedSimpArgs false
set_option linter.unusedVariables false

theorem below_grownC {B : Nat} {z w w' : World} {row : Option Nat} (h : Below B z w) (hg : w.grownBy w' row) (hr : ∀ k, row = some k → B ≤ k) (hbs : B ≤ w.heap.size) : Below B z w' :=
  ⟨hg.os.trans h.os, hg.tape.trans h.tape, hg.output.trans h.output, Nat.le_trans h.size hg.size, fun k hk => (hg.block k (by omega) (fun e => by have := hr k e.symm; omega)).trans (h.block k hk)⟩
def iL (l : List Int) : List Value := l.map (Value.int .i64)
/-- Numbers in a row of one's own. -/
def Rwn (w : World) (B : Nat) (v : Value) (l : List Int) : Prop :=
  (v = .slice none 0 0 ∧ l = []) ∨ ∃ g cap cur, v = .slice (some ⟨g, 0, none⟩) l.length cap ∧ B ≤ g ∧ Blk w g cur 3 ∧ ∀ i, i < l.length → cur[i]? = some (.int .i64 (gAt l i))
theorem rwn_own {w : World} {B : Nat} {v : Value} {l : List Int} (h : w.ownsRow B 3 1 v l.length (iL l)) : Rwn w B v l := by
  obtain ⟨h1, h2⟩ := h
  rcases h2 with ⟨rfl, h3⟩ | ⟨g, cap, cur, rfl, hb, hg, hcap, hm, hs, ht⟩
  · exact Or.inl ⟨rfl, List.eq_nil_of_length_eq_zero h3⟩
  · refine Or.inr ⟨g, cap, cur, rfl, hb, hg, fun i hi => ?_⟩
    have : (cur.toList.take (l.length * 1))[i]? = (iL l)[i]? := by rw [ht]
    rw [List.getElem?_take_of_lt (by omega)] at this
    rw [Array.getElem?_toList] at this
    rw [this, gAt_eq hi]
    simp [iL, hi]
theorem Rwn.rd {w : World} {B : Nat} {v : Value} {l : List Int} (h : Rwn w B v l) : Rd w v l := by
  rcases h with ⟨rfl, rfl⟩ | ⟨g, cap, cur, rfl, hb, X, hc⟩
  · exact rd_nil w
  · exact ⟨_, _, rfl, fun i hi => ⟨g, 0, rfl, X.lt, by rw [Nat.zero_add]; exact X.cell (hc i hi)⟩⟩
theorem Rwn.below {w w' : World} {B : Nat} {v : Value} {l : List Int} (h : Rwn w B v l) (hb : Below w.heap.size w w') : Rwn w' B v l := by
  rcases h with h | ⟨g, cap, cur, rfl, hB, X, hc⟩
  · exact Or.inl h
  · exact Or.inr ⟨g, cap, cur, rfl, hB, X.below hb, hc⟩
theorem Rwn.drew {w : World} {B : Nat} {v : Value} {l : List Int} (h : Rwn w B v l) (n : Nat) : Rwn (w.drewN n) B v l := by
  rcases h with h | ⟨g, cap, cur, rfl, hB, X, hc⟩
  · exact Or.inl h
  · exact Or.inr ⟨g, cap, cur, rfl, hB, X, hc⟩
/-- One of them: its cell, and what is there when another number is written. -/
theorem Rwn.at_ {w : World} {B : Nat} {v : Value} {l : List Int} (h : Rwn w B v l) {i : Nat} (hi : i < l.length) :
    ∃ g cap, v = .slice (some ⟨g, 0, none⟩) l.length cap ∧ B ≤ g ∧ g < w.heap.size ∧ w.cell? ⟨g, i, none⟩ = some (.int .i64 (gAt l i)) ∧ w.frozen? ⟨g, i, none⟩ = false ∧ ∀ x, Rwn (w.setCell ⟨g, i, none⟩ (.int .i64 x)) B v (l.set i x) := by
  rcases h with ⟨rfl, rfl⟩ | ⟨g, cap, cur, rfl, hB, X, hc⟩
  · exact absurd hi (Nat.not_lt_zero _)
  · refine ⟨g, cap, rfl, hB, X.lt, X.cell (hc i hi), X.frozen, fun x => Or.inr ⟨g, cap, cur.setIfInBounds i (.int .i64 x), by rw [List.length_set], hB, X.set i _, fun j hj => ?_⟩⟩
    rw [List.length_set] at hj
    have hjc : i < cur.size := by
      rcases Nat.lt_or_ge i cur.size with h | h
      · exact h
      · have := hc i hi; rw [Array.getElem?_eq_none h] at this; cases this
    rw [Array.getElem?_setIfInBounds]
    by_cases e : i = j
    · subst e
      rw [if_pos rfl, if_pos hjc]
      unfold gAt
      rw [List.getElem?_set_self hi]
      rfl
    · rw [if_neg e, hc j hj]
      unfold gAt
      rw [List.getElem?_set_ne e]

end Go.Proofs.YtpekfpfhonechaaGreat.Clo
