/- The messages that are made of votes: what sealed answers. -/
import Derived.Test.YtpncomnfodiliabVt
namespace Go.Proofs.Ytpncomnfodiliab
open Go.RowKit
set_option linter.unusedSimpArgs false
set_option linter.unusedVariables false
variable {p b x y : Nat}

theorem own_two {w : World} {base base' : Nat} {e e' : TypeId} {z z' : Nat} {v v' : Value} {n n' : Nat} {xs xs' : List Value} (h : w.ownsRow base e z v n xs) (h' : w.ownsRow base' e' z' v' n' xs') (he : e ≠ e') : v.ownBlock = none ∨ v.ownBlock ≠ v'.ownBlock := by
  cases hv : v.ownBlock with
  | none => exact Or.inl rfl
  | some k =>
    refine Or.inr fun hh => ?_
    obtain ⟨c, hc⟩ := own_heap h hv
    obtain ⟨c', hc'⟩ := own_heap h' hh.symm
    rw [hc] at hc'
    simp only [Option.some.injEq, Obj.cells.injEq] at hc'
    exact he hc'.2.1
theorem infoSg3 : (Try.prog.info? 30).map (fun i => (i.zero, i.size, i.bytes)) = some (some (.agg #[.int .i64 0, .string ⟨#[]⟩, .string ⟨#[]⟩]), 3, 40) := by kernel_rfl
theorem infoBool : (Try.prog.info? 4).map (fun i => (i.zero, i.size, i.bytes)) = some (some (.bool false), 1, 1) := by kernel_rfl
def sgC (l : List Sg) : List Value := l.flatMap fun m => [.int .i64 m.frm, .string m.body, .string m.sig]
def boC (l : List Vt) : List Value := l.map fun v => .bool (vOk v)
theorem sgC_snoc (l : List Sg) (m : Sg) : sgC (l ++ [m]) = sgC l ++ [.int .i64 m.frm, .string m.body, .string m.sig] := by simp [sgC]
theorem boC_snoc (l : List Vt) (v : Vt) : boC (l ++ [v]) = boC l ++ [.bool (vOk v)] := by simp [boC]

theorem row_new (W : World) (a b c : Value) (t : TypeId) : ∀ j u, [a, b, c][j]? = some u → (W.alloc (.cells #[a, b, c] t)).cell? ((⟨W.heap.size, 0, none⟩ : Addr).add j) = some u := by
  intro j u hj
  rw [Addr.add_mid, Nat.zero_add]
  exact (blk_new W W.heap.size #[a, b, c] t rfl).cell (by simpa using hj)

set_option maxHeartbeats 4000000 in
set_option maxRecDepth 100000 in
theorem sealed_calls (v : Value) (l : List Vt) (w0 w : World) (hl : Vts w0 v l) (hll : l.length * 56 ≤ 140737488351232) (h : Book w p b x y [] []) (h0 : Below w0.heap.size w0 w) (hx : w0.heap.size ≤ x) (hy : w0.heap.size ≤ y) :
    Calls Try.prog 5 #[.pointer (some ⟨p, 0, none⟩), v] w fun e w' => ∃ ov gv, e = .returned (.tuple #[ov, gv]) ∧ Book w' p b x y [] (vSt (l.take 60)) ∧ w'.ownsRow w0.heap.size 30 3 ov (l.take 60).length (sgC (vMs (l.take 60) [])) ∧ w'.ownsRow w0.heap.size 4 1 gv (l.take 60).length (boC (l.take 60)) ∧ Below w0.heap.size w0 w' := by
  obtain ⟨iS, hS, hS0, hS1, hS2⟩ := info_parts infoSg3
  obtain ⟨iB, hB, hB0, hB1, hB2⟩ := info_parts infoBool
  have hzw := h0.size
  obtain ⟨a, cap, rfl, hc⟩ := hl.any
  have HC : Hid _ := hc
  clear hc hl
  go_enter Try.func5, Try.ntmps5
  go_wp2_with fail
  go_loopw [6, 7, 8] (fun ov gv i wr => ∃ k : Nat, k ≤ l.length ∧ k ≤ 60 ∧ i = .int .i64 k ∧ Book wr p b x y [] (vSt (l.take k)) ∧ wr.ownsRow w0.heap.size 30 3 ov k (sgC (vMs (l.take k) [])) ∧ wr.ownsRow w0.heap.size 4 1 gv k (boC (l.take k)) ∧ Below w0.heap.size w0 wr) (fun _ _ i _ => l.length - (intOf i).toNat)
  case atStart => exact ⟨0, Nat.zero_le _, by decide, rfl, h, World.ownsRow_nil _ _ _ _, World.ownsRow_nil _ _ _ _, h0⟩
  case round =>
    obtain ⟨k, hk, hk1, rfl, K2, ho, hgd, hb2⟩ := hrel
    have hz2 := hb2.size
    by_cases hgo : k < l.length ∧ k < 60
    · obtain ⟨hlt, hlt1⟩ := hgo
      have hdk : decide ((k : Int) < (l.length : Int)) = true := by simp only [decide_eq_true_eq]; omega
      have hdk1 : decide ((k : Int) < 60) = true := by simp only [decide_eq_true_eq]; omega
      obtain ⟨g, off, hga, _, hg, hcel, hfit⟩ := HC.out k hlt
      subst hga
      have d0 : wr.cell? ⟨g, off + k * 6, none⟩ = some (.int .i64 l[k].who) := keepCell hb2 (hcel 0 _ rfl)
      have d1 := keepCell hb2 (hcel 1 _ rfl)
      have d2 := keepCell hb2 (hcel 2 _ rfl)
      have d3 := keepCell hb2 (hcel 3 _ rfl)
      have d4 := keepCell hb2 (hcel 4 _ rfl)
      have d5 := keepCell hb2 (hcel 5 _ rfl)
      have htk : l.take (k + 1) = l.take k ++ [l[k]] := List.take_succ_eq_append_getElem hlt
      have hSl := vSt_len (l.take k)
      have hSl' : (vSt (l.take k)).length ≤ k := Nat.le_trans hSl (by simp; omega)
      clear hSl
      generalize hA : l[k] = vt at *
      have HS1 : Hid (vSt (l.take (k + 1)) = sealS (vSt (l.take k)) vt.who vt.bd) := by show _ = _; rw [htk, vSt_snoc]
      have HS2 : Hid (sgC (vMs (l.take (k + 1)) []) = sgC (vMs (l.take k) []) ++ [.int .i64 (vMsg (vSt (l.take k)) vt).frm, .string (vMsg (vSt (l.take k)) vt).body, .string (vMsg (vSt (l.take k)) vt).sig]) := by show _ = _; rw [htk, vMs_snoc, sgC_snoc]; rfl
      have HS3 : Hid (boC (l.take (k + 1)) = boC (l.take k) ++ [.bool (vOk vt)]) := by show _ = _; rw [htk, boC_snoc]
      clear htk
      generalize vSt (l.take k) = S at *
      generalize sgC (vMs (l.take k) []) = OC at *
      generalize boC (l.take k) = GC at *
      obtain ⟨W1, hW1, XV, B1, Z1⟩ : ∃ W1, (wr.alloc (.cells #[.int .i64 vt.who, .int .i64 vt.kind, .int .i64 vt.view, .int .i64 vt.seq, .int .i64 vt.spoilt, .string vt.dg] 41)) = W1 ∧ Blk W1 wr.heap.size #[.int .i64 vt.who, .int .i64 vt.kind, .int .i64 vt.view, .int .i64 vt.seq, .int .i64 vt.spoilt, .string vt.dg] 41 ∧ Below wr.heap.size wr W1 ∧ W1.heap.size = wr.heap.size + 1 :=
        ⟨_, rfl, blk_new _ _ _ _ rfl, by go_grown, by simp⟩
      have K1 := K2.below B1
      have c0 : W1.cell? ⟨wr.heap.size, 0, none⟩ = some (.int .i64 vt.who) := XV.cell rfl
      have c1 : W1.cell? ⟨wr.heap.size, 1, none⟩ = some (.int .i64 vt.kind) := XV.cell rfl
      have c2 : W1.cell? ⟨wr.heap.size, 2, none⟩ = some (.int .i64 vt.view) := XV.cell rfl
      have c3 : W1.cell? ⟨wr.heap.size, 3, none⟩ = some (.int .i64 vt.seq) := XV.cell rfl
      have c5 : W1.cell? ⟨wr.heap.size, 5, none⟩ = some (.string vt.dg) := XV.cell rfl
      have hrd := fun wx => round_calls vt.kind 2 wx (by decide) (by decide)
      have hrb := rnd_bounds vt.kind 2 (by decide) (by decide)
      have hSe := seal_calls vt.who vt.bd none 0 0 W1 K1 (by omega) (by unfold maxLen; have := hfit; unfold Vt.fit at this; show vt.dg.size ≤ _; omega) (show (⟨#[]⟩ : ByteArray).size ≤ maxLen by decide) (show ([] : List Sg).length < _ by decide) (Or.inl ⟨⟨_, _, rfl⟩, rfl⟩)
      have hfr := sealR_frm S vt.who vt.bd
      have hsg := sealR_sig S vt.who vt.bd
      have hse := sealR_e S vt.who vt.bd
      have HM : Hid (vMsg S vt = spoil vt (sealR S vt.who vt.bd).1) := rfl
      have HOK : Hid (vOk vt = (((sealR S vt.who vt.bd).2 == 0) && !decide (vt.spoilt = 1) && !decide (vt.spoilt = 2))) := by show _ = _; rw [hse]; rfl
      clear hse
      have HSe : Hid _ := hSe
      clear hSe
      generalize (sealR S vt.who vt.bd).1 = M at *
      generalize (sealR S vt.who vt.bd).2 = E at *
      generalize sealS S vt.who vt.bd = S2 at *
      obtain ⟨hr0, hr1⟩ := hrb
      have HRD : Hid _ := hrd
      clear hrd
      obtain ⟨BE, hBE⟩ : ∃ BE, (E == 0) = BE := ⟨_, rfl⟩
      rw [hBE] at HOK
      have hBE' : decide (E = 0) = BE := hBE
      go_wp2_with fail
      refine (HRD.out _).mono ?_
      rintro e w1 ⟨rfl, rfl⟩
      go_wp2_with fail
      refine Calls.mono HSe.out ?_
      rintro e w2 ⟨rfl, K3, o2⟩
      have b2 : Below w0.heap.size w0 w2 := o2.below hx hy (hb2.trans (B1.mono hz2)) (by omega)
      have z2 := b2.size
      have zo := o2.size
      obtain ⟨W3, hW3, XM, B3, Z3⟩ : ∃ W3, (w2.alloc (.cells #[.int .i64 M.frm, .string M.body, .string M.sig] 30)) = W3 ∧ Blk W3 w2.heap.size #[.int .i64 M.frm, .string M.body, .string M.sig] 30 ∧ Below w2.heap.size w2 W3 ∧ W3.heap.size = w2.heap.size + 1 :=
        ⟨_, rfl, blk_new _ _ _ _ rfl, by go_grown, by simp⟩
      have K3' := K3.below B3
      have b3 : Below w0.heap.size w0 W3 := b2.trans (B3.mono z2)
      have XV3 := (XV.off2 o2 (by have := K1.nums.mx; intro e; have h2 := XV; unfold Blk at h2; rw [e, this] at h2; cases h2) (by have := K1.nums.my; intro e; have h2 := XV; unfold Blk at h2; rw [e, this] at h2; cases h2)).below B3
      have c4 : W3.cell? ⟨wr.heap.size, 4, none⟩ = some (.int .i64 vt.spoilt) := XV3.cell rfl
      have oo3 := own_below (own_off2 K1 (own_below ho B1) o2) B3
      have og3 := own_below (own_off2 K1 (own_below hgd B1) o2) B3
      clear HSe HRD
      have m0 : W3.cell? ⟨w2.heap.size, 0, none⟩ = some (.int .i64 M.frm) := XM.cell rfl
      have m1 : W3.cell? ⟨w2.heap.size, 1, none⟩ = some (.string M.body) := XM.cell rfl
      have m2 : W3.cell? ⟨w2.heap.size, 2, none⟩ = some (.string M.sig) := XM.cell rfl
      have f0 : W3.frozen? ⟨w2.heap.size, 0, none⟩ = false := XM.frozen
      have f2 : W3.frozen? ⟨w2.heap.size, 2, none⟩ = false := XM.frozen
      unfold Sg.val
      have HB1 : Hid (∀ g, u6.ownBlock = some g → g < w2.heap.size) := fun g hg => ((own_off2 K1 (own_below ho B1) o2).lt g hg).2
      have HB2 : Hid (∀ g, u7.ownBlock = some g → g < w2.heap.size) := fun g hg => ((own_off2 K1 (own_below hgd B1) o2).lt g hg).2
      have hkl := K3.lts
      by_cases hs1 : vt.spoilt = 1
      · have hs2 : ¬ vt.spoilt = 2 := by omega
        have hd1 : decide (vt.spoilt = 1) = true := decide_eq_true hs1
        have hd1' : (vt.spoilt == 1) = true := hd1
        have hd2 : decide (vt.spoilt = 2) = false := decide_eq_false hs2
        have hd2' : (vt.spoilt == 2) = false := hd2
        have hcs : ¬ 9223372036854775807 < M.sig.size + 1 := by omega
        obtain ⟨W4, hW4, XM4, B4, Z4, N4⟩ : ∃ W4, W3.setCell ⟨w2.heap.size, 2, none⟩ (.string (M.sig ++ ⟨#[120]⟩)) = W4 ∧ Blk W4 w2.heap.size #[.int .i64 M.frm, .string M.body, .string (M.sig ++ ⟨#[120]⟩)] 30 ∧ Off w2.heap.size W3 W4 ∧ W4.heap.size = W3.heap.size ∧ Blk W4 wr.heap.size #[.int .i64 vt.who, .int .i64 vt.kind, .int .i64 vt.view, .int .i64 vt.seq, .int .i64 vt.spoilt, .string vt.dg] 41 :=
          ⟨_, rfl, XM.set 2 (.string (M.sig ++ ⟨#[120]⟩)), Off.setCell (Off.refl _ _) (p := ⟨w2.heap.size, 2, none⟩) rfl _, by simp [World.setCell], XV3.setOther (by simp; omega) _⟩
        have oo4 := oo3.kept B4.by (Or.inr (fun e => by have := (HB1.out _ e); omega))
        have og4 := og3.kept B4.by (Or.inr (fun e => by have := (HB2.out _ e); omega))
        have K4 := K3'.grown B4.by ⟨by simp; omega, by simp; omega, by simp; omega, by simp; omega⟩
        have b4 : Below w0.heap.size w0 W4 := B4.below z2 b3 (by omega)
        have c4' : W4.cell? ⟨wr.heap.size, 4, none⟩ = some (.int .i64 vt.spoilt) := N4.cell rfl
        have n0 : W4.cell? ⟨w2.heap.size, 0, none⟩ = some (.int .i64 M.frm) := XM4.cell rfl
        have n1 : W4.cell? ⟨w2.heap.size, 1, none⟩ = some (.string M.body) := XM4.cell rfl
        have n2 : W4.cell? ⟨w2.heap.size, 2, none⟩ = some (.string (M.sig ++ ⟨#[120]⟩)) := XM4.cell rfl
        have z4 := b4.size
        have HZ3 : Hid _ := Z3
        clear Z3
        have HZ4 : Hid _ := Z4
        clear Z4
        go_wp2_with (at_builtin; refine wpList_append_own _ rfl _ _ 25 rfl w0.heap.size 30 iS (.agg #[.int .i64 0, .string ⟨#[]⟩, .string ⟨#[]⟩]) 3 40 Try.underlying25 hS hS0 hS1 hS2 rfl (by decide) _ _ _ rfl (oo4.alloc _) ⟨W4.heap.size, 0, none⟩ 1 1 [.int .i64 M.frm, .string M.body, .string (M.sig ++ ⟨#[120]⟩)] rfl rfl ?c1 ?c2 ?c3 ?c4 ?c5 ?_)
        case c1 => exact row_new _ _ _ _ _
        case c2 => intro u hu; simp at hu; rcases hu with rfl | rfl | rfl <;> rfl
        case c3 => unfold maxLen; omega
        case c4 => omega
        case c5 => simp; omega
        intro ov' w5 hown5 hgrow5 _
        have K5 : Book w5 p b x y [] S2 := Book.grown (K4.below ((Below.refl _ _).alloc (Nat.le_refl _) _)) hgrow5 (K4.apart oo4 (by decide) (by decide))
        have b5 : Below w0.heap.size w0 w5 := below_grown (b4.alloc (by omega) _) hgrow5 (fun k hk => (oo4.lt k hk).1) (by simp; omega)
        have z5 := b5.size
        have og5 : w5.ownsRow w0.heap.size 4 1 u7 k GC := (og4.alloc _).kept hgrow5 (own_two og4 oo4 (by decide))
        go_wp2_with (at_builtin; refine wpList_append_own _ rfl _ _ 26 rfl w0.heap.size 4 iB (.bool false) 1 1 Try.underlying26 hB hB0 hB1 hB2 rfl (by decide) _ _ _ rfl (og5.alloc _) ⟨w5.heap.size, 0, none⟩ 1 1 [.bool false] rfl rfl ?c1 ?c2 ?c3 ?c4 ?c5 ?_)
        case c1 => exact cell_one_new _ _ _
        case c2 => intro u hu; simp at hu; subst hu; rfl
        case c3 => unfold maxLen; omega
        case c4 => omega
        case c5 => simp; omega
        intro gv' w6 hown6 hgrow6 _
        have K6 : Book w6 p b x y [] S2 := Book.grown (K5.below ((Below.refl _ _).alloc (Nat.le_refl _) _)) hgrow6 (K5.apart og5 (by decide) (by decide))
        have b6 : Below w0.heap.size w0 w6 := below_grown (b5.alloc (by omega) _) hgrow6 (fun k hk => (og5.lt k hk).1) (by simp; omega)
        have oo6 : w6.ownsRow w0.heap.size 30 3 ov' (k + 1) (OC ++ [.int .i64 M.frm, .string M.body, .string (M.sig ++ ⟨#[120]⟩)]) := (hown5.alloc _).kept hgrow6 (own_two hown5 og5 (by decide))
        go_wp2
        refine ⟨⟨k + 1, by omega, by omega, by norm_cast, ?_, ?_, ?_, b6⟩, ?_⟩
        · rw [HS1.out]; exact K6
        · rw [HS2.out, HM.out]; simpa [spoil, hs1, hs2] using oo6
        · rw [HS3.out, HOK.out]; simpa [hs1, hs2] using hown6
        · simp [intOf]; omega
      · by_cases hs2 : vt.spoilt = 2
        · have hd1 : decide (vt.spoilt = 1) = false := decide_eq_false hs1
          have hd1' : (vt.spoilt == 1) = false := hd1
          have hd2 : decide (vt.spoilt = 2) = true := decide_eq_true hs2
          have hd2' : (vt.spoilt == 2) = true := hd2
          have hfw : M.frm + 1 < 1000 := by omega
          obtain ⟨W4, hW4, XM4, B4, Z4, N4⟩ : ∃ W4, W3.setCell ⟨w2.heap.size, 0, none⟩ (.int .i64 (M.frm + 1)) = W4 ∧ Blk W4 w2.heap.size #[.int .i64 (M.frm + 1), .string M.body, .string M.sig] 30 ∧ Off w2.heap.size W3 W4 ∧ W4.heap.size = W3.heap.size ∧ Blk W4 wr.heap.size #[.int .i64 vt.who, .int .i64 vt.kind, .int .i64 vt.view, .int .i64 vt.seq, .int .i64 vt.spoilt, .string vt.dg] 41 :=
            ⟨_, rfl, XM.set 0 (.int .i64 (M.frm + 1)), Off.setCell (Off.refl _ _) (p := ⟨w2.heap.size, 0, none⟩) rfl _, by simp [World.setCell], XV3.setOther (by simp; omega) _⟩
          have oo4 := oo3.kept B4.by (Or.inr (fun e => by have := (HB1.out _ e); omega))
          have og4 := og3.kept B4.by (Or.inr (fun e => by have := (HB2.out _ e); omega))
          have K4 := K3'.grown B4.by ⟨by simp; omega, by simp; omega, by simp; omega, by simp; omega⟩
          have b4 : Below w0.heap.size w0 W4 := B4.below z2 b3 (by omega)
          have c4' : W4.cell? ⟨wr.heap.size, 4, none⟩ = some (.int .i64 vt.spoilt) := N4.cell rfl
          have n0 : W4.cell? ⟨w2.heap.size, 0, none⟩ = some (.int .i64 (M.frm + 1)) := XM4.cell rfl
          have n1 : W4.cell? ⟨w2.heap.size, 1, none⟩ = some (.string M.body) := XM4.cell rfl
          have n2 : W4.cell? ⟨w2.heap.size, 2, none⟩ = some (.string M.sig) := XM4.cell rfl
          have z4 := b4.size
          have HZ3 : Hid _ := Z3
          clear Z3
          have HZ4 : Hid _ := Z4
          clear Z4
          go_wp2_with (at_builtin; refine wpList_append_own _ rfl _ _ 25 rfl w0.heap.size 30 iS (.agg #[.int .i64 0, .string ⟨#[]⟩, .string ⟨#[]⟩]) 3 40 Try.underlying25 hS hS0 hS1 hS2 rfl (by decide) _ _ _ rfl (oo4.alloc _) ⟨W4.heap.size, 0, none⟩ 1 1 [.int .i64 (M.frm + 1), .string M.body, .string M.sig] rfl rfl ?c1 ?c2 ?c3 ?c4 ?c5 ?_)
          case c1 => exact row_new _ _ _ _ _
          case c2 => intro u hu; simp at hu; rcases hu with rfl | rfl | rfl <;> rfl
          case c3 => unfold maxLen; omega
          case c4 => omega
          case c5 => simp; omega
          intro ov' w5 hown5 hgrow5 _
          have K5 : Book w5 p b x y [] S2 := Book.grown (K4.below ((Below.refl _ _).alloc (Nat.le_refl _) _)) hgrow5 (K4.apart oo4 (by decide) (by decide))
          have b5 : Below w0.heap.size w0 w5 := below_grown (b4.alloc (by omega) _) hgrow5 (fun k hk => (oo4.lt k hk).1) (by simp; omega)
          have z5 := b5.size
          have og5 : w5.ownsRow w0.heap.size 4 1 u7 k GC := (og4.alloc _).kept hgrow5 (own_two og4 oo4 (by decide))
          go_wp2_with (at_builtin; refine wpList_append_own _ rfl _ _ 26 rfl w0.heap.size 4 iB (.bool false) 1 1 Try.underlying26 hB hB0 hB1 hB2 rfl (by decide) _ _ _ rfl (og5.alloc _) ⟨w5.heap.size, 0, none⟩ 1 1 [.bool false] rfl rfl ?c1 ?c2 ?c3 ?c4 ?c5 ?_)
          case c1 => exact cell_one_new _ _ _
          case c2 => intro u hu; simp at hu; subst hu; rfl
          case c3 => unfold maxLen; omega
          case c4 => omega
          case c5 => simp; omega
          intro gv' w6 hown6 hgrow6 _
          have K6 : Book w6 p b x y [] S2 := Book.grown (K5.below ((Below.refl _ _).alloc (Nat.le_refl _) _)) hgrow6 (K5.apart og5 (by decide) (by decide))
          have b6 : Below w0.heap.size w0 w6 := below_grown (b5.alloc (by omega) _) hgrow6 (fun k hk => (og5.lt k hk).1) (by simp; omega)
          have oo6 : w6.ownsRow w0.heap.size 30 3 ov' (k + 1) (OC ++ [.int .i64 (M.frm + 1), .string M.body, .string M.sig]) := (hown5.alloc _).kept hgrow6 (own_two hown5 og5 (by decide))
          go_wp2
          refine ⟨⟨k + 1, by omega, by omega, by norm_cast, ?_, ?_, ?_, b6⟩, ?_⟩
          · rw [HS1.out]; exact K6
          · rw [HS2.out, HM.out]; simpa [spoil, hs1, hs2] using oo6
          · rw [HS3.out, HOK.out]; simpa [hs1, hs2] using hown6
          · simp [intOf]; omega
        · have hd1 : decide (vt.spoilt = 1) = false := decide_eq_false hs1
          have hd1' : (vt.spoilt == 1) = false := hd1
          have hd2 : decide (vt.spoilt = 2) = false := decide_eq_false hs2
          have hd2' : (vt.spoilt == 2) = false := hd2
          have oo4 := oo3
          have og4 := og3
          have K4 := K3'
          have b4 := b3
          have z4 := b4.size
          have HZ3 : Hid _ := Z3
          clear Z3
          go_wp2_with (at_builtin; refine wpList_append_own _ rfl _ _ 25 rfl w0.heap.size 30 iS (.agg #[.int .i64 0, .string ⟨#[]⟩, .string ⟨#[]⟩]) 3 40 Try.underlying25 hS hS0 hS1 hS2 rfl (by decide) _ _ _ rfl (oo4.alloc _) ⟨W3.heap.size, 0, none⟩ 1 1 [.int .i64 M.frm, .string M.body, .string M.sig] rfl rfl ?c1 ?c2 ?c3 ?c4 ?c5 ?_)
          case c1 => exact row_new _ _ _ _ _
          case c2 => intro u hu; simp at hu; rcases hu with rfl | rfl | rfl <;> rfl
          case c3 => unfold maxLen; omega
          case c4 => omega
          case c5 => simp; omega
          intro ov' w5 hown5 hgrow5 _
          have K5 : Book w5 p b x y [] S2 := Book.grown (K4.below ((Below.refl _ _).alloc (Nat.le_refl _) _)) hgrow5 (K4.apart oo4 (by decide) (by decide))
          have b5 : Below w0.heap.size w0 w5 := below_grown (b4.alloc (by omega) _) hgrow5 (fun k hk => (oo4.lt k hk).1) (by simp; omega)
          have z5 := b5.size
          have og5 : w5.ownsRow w0.heap.size 4 1 u7 k GC := (og4.alloc _).kept hgrow5 (own_two og4 oo4 (by decide))
          go_wp2_with (at_builtin; refine wpList_append_own _ rfl _ _ 26 rfl w0.heap.size 4 iB (.bool false) 1 1 Try.underlying26 hB hB0 hB1 hB2 rfl (by decide) _ _ _ rfl (og5.alloc _) ⟨w5.heap.size, 0, none⟩ 1 1 [.bool BE] rfl rfl ?c1 ?c2 ?c3 ?c4 ?c5 ?_)
          case c1 => exact cell_one_new _ _ _
          case c2 => intro u hu; simp at hu; subst hu; rfl
          case c3 => unfold maxLen; omega
          case c4 => omega
          case c5 => simp; omega
          intro gv' w6 hown6 hgrow6 _
          have K6 : Book w6 p b x y [] S2 := Book.grown (K5.below ((Below.refl _ _).alloc (Nat.le_refl _) _)) hgrow6 (K5.apart og5 (by decide) (by decide))
          have b6 : Below w0.heap.size w0 w6 := below_grown (b5.alloc (by omega) _) hgrow6 (fun k hk => (og5.lt k hk).1) (by simp; omega)
          have oo6 : w6.ownsRow w0.heap.size 30 3 ov' (k + 1) (OC ++ [.int .i64 M.frm, .string M.body, .string M.sig]) := (hown5.alloc _).kept hgrow6 (own_two hown5 og5 (by decide))
          go_wp2
          refine ⟨⟨k + 1, by omega, by omega, by norm_cast, ?_, ?_, ?_, b6⟩, ?_⟩
          · rw [HS1.out]; exact K6
          · rw [HS2.out, HM.out]; simpa [spoil, hs1, hs2] using oo6
          · rw [HS3.out, HOK.out]; simpa [hs1, hs2] using hown6
          · simp [intOf]; omega
    · have htk : l.take 60 = l.take k := by
        by_cases h1 : k < l.length
        · have : k = 60 := by omega
          rw [this]
        · rw [List.take_of_length_le (by omega), List.take_of_length_le (by omega)]
      have hkl : (l.take 60).length = k := by rw [htk]; simp; omega
      by_cases h1 : k < l.length
      · have hdk : decide ((k : Int) < (l.length : Int)) = true := by simp only [decide_eq_true_eq]; omega
        have hdk1 : decide ((k : Int) < 60) = false := by simp only [decide_eq_false_iff_not]; omega
        go_wp2
        go_ret2
        exact ⟨_, _, rfl, by rw [htk]; exact K2, by rw [hkl, htk]; exact ho, by rw [hkl, htk]; exact hgd, hb2⟩
      · have hdk : decide ((k : Int) < (l.length : Int)) = false := by simp only [decide_eq_false_iff_not]; omega
        go_wp2
        go_ret2
        exact ⟨_, _, rfl, by rw [htk]; exact K2, by rw [hkl, htk]; exact ho, by rw [hkl, htk]; exact hgd, hb2⟩
end Go.Proofs.Ytpncomnfodiliab
