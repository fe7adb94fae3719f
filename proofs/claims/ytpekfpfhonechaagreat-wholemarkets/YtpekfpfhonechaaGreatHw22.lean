/- What each order gets of one side; of both. -/
import Derived.Test.YtpekfpfhonechaaGreatHw21
import Derived.Lib.SliceRun
namespace Go.Proofs.YtpekfpfhonechaaGreat.Cal
open Go.Shelf Go.RowKit Go.Lib Go.Sort
set_option linter.unusedSimpArgs false
set_option linter.unusedVariables false

theorem infoF : (Tryz.prog.info? 163).map (fun i => (i.zero, i.size, i.bytes)) = some (some (.agg #[.int .i64 0, .int .i64 0, .int .i64 0]), 3, 24) := by kernel_rfl
theorem own_base {w : World} {b b' : Nat} {e : TypeId} {sz : Nat} {v : Value} {n : Nat} {xs : List Value} (ho : w.ownsRow b e sz v n xs) (h : b' ≤ b) : w.ownsRow b' e sz v n xs := by
  refine ⟨ho.1, ?_⟩
  rcases ho.2 with h1 | ⟨g, cap, cur, h1, h2, h3⟩
  · exact Or.inl h1
  · exact Or.inr ⟨g, cap, cur, h1, by omega, h3⟩
theorem fll_step {s : List Od} {k : Nat} {o : Od} (h : s[k]? = some o) (m : Int) : fll (s.drop k) m = if min o.am m ≤ 0 then [] else (o.id, o.own, min o.am m) :: fll (s.drop (k + 1)) (m - min o.am m) := by
  have hk := List.getElem?_eq_some_iff.1 h
  rw [List.drop_eq_getElem_cons hk.1, hk.2, fll]
theorem fll_len : ∀ (s : List Od) (m : Int), (fll s m).length ≤ s.length
  | [], _ => by simp [fll]
  | o :: s, m => by
    rw [fll]
    split
    · simp
    · simp only [List.length_cons]; have := fll_len s (m - min o.am m); omega

set_option maxHeartbeats 8000000 in
set_option maxRecDepth 100000 in
theorem filled_calls (f : Od → Bool) (bp : Od → Od → Int) (hO : SWO (ltOf (fun a b : Od => cOr (bp a b) (cmI a.pl b.pl)))) (g : Nat) (cb : Array Value) (fk : Nat) (v : Value) (l : List Od) (n : Int) (w : World)
    (eg : ∀ args w, (callFunc g args).run Tryz.prog w = .ok (.enter g args) w) (ek : ∀ args w, (callFunc fk args).run Tryz.prog w = .ok (.enter fk args) w) (hl : Ods w v l) (hj : Jd l) (hn : -9223372036854775808 ≤ n ∧ n ≤ 9223372036854775807)
    (hf : ∀ o wx, Below w.heap.size w wx → Calls Tryz.prog g (#[.agg (oC o).toArray] ++ cb) wx fun e w' => e = .returned (.bool (f o)) ∧ Below wx.heap.size wx w')
    (hk : ∀ a b w, Calls Tryz.prog fk #[.agg (oC a).toArray, .agg (oC b).toArray] w fun e w' => e = .returned (.int .i64 (bp a b)) ∧ Gr w w') :
    Calls Tryz.prog 135 #[v, .func (.func g) #[] cb, .func (.func fk) #[] #[], .int .i64 n] w fun e w' => ∃ v', e = .returned v' ∧ w'.ownsRow w.heap.size 163 3 v' (fll (stab (ltOf (fun a b : Od => cOr (bp a b) (cmI a.pl b.pl))) (l.filter f)) n).length (fiL (fll (stab (ltOf (fun a b : Od => cOr (bp a b) (cmI a.pl b.pl))) (l.filter f)) n)) ∧ Below w.heap.size w w' := by
  obtain ⟨i0, hi, hz0, hz1, hz2⟩ := info_parts infoF
  have e40 : ∀ args w, (callFunc 149 args).run Tryz.prog w = .ok (.enter 149 args) w := by intro args w; kernel_rfl
  obtain ⟨W0, hW0, XB, B0, Z0⟩ : ∃ W0, (w.alloc (.cells #[.func (.func fk) #[] #[]] 195)) = W0 ∧ Blk W0 w.heap.size #[.func (.func fk) #[] #[]] 195 ∧ Below w.heap.size w W0 ∧ W0.heap.size = w.heap.size + 1 :=
    ⟨_, rfl, blk_new _ _ _ _ rfl, by go_grown, by simp⟩
  have HP : Hid _ := pick_calls f g cb v l W0 eg (hl.below B0) (by have := hj.1; omega) (fun o wx hb => hf o wx (B0.trans (hb.mono (by omega))))
  have HJ : Hid (Jd (l.filter f)) := hj.filter f
  obtain ⟨pp, cap, rfl, hc⟩ := hl
  generalize l.filter f = J at *
  have hcb : W0.cell? ⟨w.heap.size, 0, none⟩ = some (.func (.func fk) #[] #[]) := XB.cell rfl
  have HK : Hid (∀ x y wx, wx.cell? ⟨w.heap.size, 0, none⟩ = some (.func (.func fk) #[] #[]) → Calls Tryz.prog 149 (#[.agg (oC x).toArray, .agg (oC y).toArray] ++ #[.pointer (some ⟨w.heap.size, 0, none⟩)]) wx fun e w' => e = .returned (.int .i64 (cOr (bp x y) (cmI x.pl y.pl))) ∧ Gr wx w') :=
    fun x y wx hx => fill1_calls bp fk w.heap.size x y wx ek hx (fun w => hk x y w)
  have E40 : Hid _ := e40
  have HO : Hid _ := hO
  have HB : Hid _ := hcb
  generalize hcf : (fun a b : Od => cOr (bp a b) (cmI a.pl b.pl)) = cf at *
  have HK2 : Hid (∀ x y wx, wx.cell? ⟨w.heap.size, 0, none⟩ = some (.func (.func fk) #[] #[]) → Calls Tryz.prog 149 (#[.agg (oC x).toArray, .agg (oC y).toArray] ++ #[.pointer (some ⟨w.heap.size, 0, none⟩)]) wx fun e w' => e = .returned (.int .i64 (cf x y)) ∧ Gr wx w') := by
    intro x y wx hx; rw [← hcf]; exact HK.out x y wx hx
  clear hf hc hj hO hk e40 hcb hcf HK
  go_enter Tryz.func135, Tryz.ntmps135
  go_wp2_with fail
  refine Calls.mono HP.out ?_
  rintro e w2 ⟨v2, rfl, own2, b2⟩
  have hlt2 : w.heap.size < w2.heap.size := by have := b2.size; omega
  have HS : Hid _ := sortStable_calls cf HO.out 149 #[.pointer (some ⟨w.heap.size, 0, none⟩)] W0.heap.size v2 J w2 E40.out (fun x y wx h1 h2 => by
    refine HK2.out x y wx ?_
    have hc2 := (b2.cell (p := ⟨w.heap.size, 0, none⟩) XB.lt).trans HB.out
    cases hv : v2.ownBlock with
    | none => exact ((h2 hv).cell (p := ⟨w.heap.size, 0, none⟩) hlt2).trans hc2
    | some r =>
      have hr := (own2.lt r hv).1
      exact ((h1 r hv).cell (p := ⟨w.heap.size, 0, none⟩) hlt2 (by show w.heap.size ≠ r; omega)).trans hc2) own2 (by have := HJ.out.1; omega)
  have HL2 : Hid (∀ r, v2.ownBlock = some r → w.heap.size ≤ r) := fun r hr => by have := (own2.lt r hr).1; omega
  obtain ⟨oc, ocap, rfl⟩ := own_form own2
  clear own2 HP XB hW0 HK2
  go_wp2_with fail
  refine Calls.mono HS.out ?_
  rintro e w3 ⟨rfl, own3, hno, hof⟩
  have b3 : Below w.heap.size w w3 := by
    have hb2 : Below w.heap.size w w2 := B0.trans (b2.mono (by omega))
    cases hv : (Value.slice oc J.length ocap).ownBlock with
    | none => rw [hno hv]; exact hb2
    | some r => exact (hof r hv).below (HL2.out r hv) hb2 (by omega)
  have HSJ : Hid (Jd (stab (ltOf cf) J)) := ⟨by rw [stab_len]; exact HJ.out.1, fun o ho => HJ.out.2 o ((Stb.mem HO.out (stab_stb HO.out J)).1 ho)⟩
  have HD : Hid (Ods w3 (.slice oc J.length ocap) (stab (ltOf cf) J)) := by
    have := own3
    rw [← stab_len (lt := ltOf cf) J] at this ⊢
    exact ods_own this
  have hSl : (stab (ltOf cf) J).length = J.length := stab_len J
  obtain ⟨s, hs⟩ : ∃ s, stab (ltOf cf) J = s := ⟨_, rfl⟩
  have HST : Hid _ := hs
  rw [hs] at HSJ HD hSl
  clear hs
  have HSL : Hid _ := hSl
  have hJ64 := HJ.out.1
  clear own3 hno hof hSl HS
  go_wp2
  go_loopw [3, 9, 21] (fun lf ov i wr => ∃ (k : Nat) (m : Int) (acc : List Fi), k ≤ J.length ∧ i = .int .i64 k ∧ lf = .int .i64 m ∧ -9223372036854775808 ≤ m ∧ m ≤ 9223372036854775807 ∧ acc.length ≤ k ∧ Hid (fll s n = acc ++ fll (s.drop k) m) ∧ Hid (wr.ownsRow w3.heap.size 163 3 ov acc.length (fiL acc)) ∧ Below w3.heap.size w3 wr) (fun _ _ i _ => J.length - (intOf i).toNat)
  case atStart => exact ⟨0, n, [], Nat.zero_le _, rfl, rfl, hn.1, hn.2, Nat.le_refl _, rfl, World.ownsRow_nil _ _ _ _, Below.refl _ _⟩
  case round =>
    obtain ⟨k, m, acc, hk, rfl, rfl, hm1, hm2, hac, HR, HA, hb⟩ := hrel
    have hz := hb.size
    have hz3 := b3.size
    obtain ⟨ac, acap, rfl⟩ := own_form HA.out
    by_cases hlt : k < J.length
    · have hd : decide ((k : Int) < J.length) = true := by simp only [decide_eq_true_eq]; omega
      obtain ⟨o, ho⟩ : ∃ o, s[k]? = some o := by have := HSL.out; exact ⟨s[k], by simp [this, hlt]⟩
      obtain ⟨p', cap', hv, hcs⟩ := HD.out
      injection hv with hv1 hv2 hv3
      clear hv2
      subst hv1 hv3
      rcases hcs with hnil | ⟨gb, off, hp, hcs⟩
      · exfalso; rw [hnil] at ho; simp at ho
      subst hp
      obtain ⟨c0, c1, c2, c3, c4, c5⟩ := Ods.six hcs ho
      have hbl := World.block_lt_of_cell? w3 _ c0
      have d0 := (hb.cell (p := ⟨gb, off + k * 6, none⟩) hbl).trans c0
      have d1 := (hb.cell (p := ⟨gb, off + k * 6 + 1, none⟩) hbl).trans c1
      have d2 := (hb.cell (p := ⟨gb, off + k * 6 + 2, none⟩) hbl).trans c2
      have d3 := (hb.cell (p := ⟨gb, off + k * 6 + 3, none⟩) hbl).trans c3
      have d4 := (hb.cell (p := ⟨gb, off + k * 6 + 4, none⟩) hbl).trans c4
      have d5 := (hb.cell (p := ⟨gb, off + k * 6 + 5, none⟩) hbl).trans c5
      have HT : Hid _ := fll_step ho m
      have a2 := HSJ.out.am o (List.mem_of_getElem? ho)
      obtain ⟨W1, hW1, XM, B1, Z1⟩ : ∃ W1, (wr.alloc (.cells #[.int .i64 o.id, .int .i64 o.own, .int .i64 o.pr, .int .i64 o.am, .int .i64 o.pl, .bool o.by] 51)) = W1 ∧ Blk W1 wr.heap.size (oC o).toArray 51 ∧ Below wr.heap.size wr W1 ∧ W1.heap.size = wr.heap.size + 1 :=
        ⟨_, rfl, blk_new _ _ _ _ rfl, by go_grown, by simp⟩
      have x0 : W1.cell? ⟨wr.heap.size, 0, none⟩ = some (.int .i64 o.id) := XM.cell rfl
      have x1 : W1.cell? ⟨wr.heap.size, 1, none⟩ = some (.int .i64 o.own) := XM.cell rfl
      have x3 : W1.cell? ⟨wr.heap.size, 3, none⟩ = some (.int .i64 o.am) := XM.cell rfl
      have HA2 : Hid _ := ownB HA.out B1
      have B2 : Below w3.heap.size w3 W1 := hb.trans (B1.mono hz)
      have Z2 : wr.heap.size < W1.heap.size := by omega
      clear Z1
      clear c0 c1 c2 c3 c4 c5 hcs ho
      generalize o.id = y0 at *
      generalize o.own = y1 at *
      generalize o.am = y3 at *
      obtain ⟨mn, hmn⟩ : ∃ mn, min y3 m = mn := ⟨_, rfl⟩
      rw [hmn] at HT
      have hm3 : mn ≤ m := by omega
      have hm4 : mn ≤ 1048576 := by omega
      by_cases hle : mn ≤ 0
      · rw [if_pos hle] at HT
        have hle2 : decide (mn ≤ 0) = true := decide_eq_true hle
        go_wp2
        go_ret
        have hr := HR.out
        rw [HT.out, List.append_nil] at hr
        rw [HST.out, hr]
        exact ⟨.slice ac acc.length acap, rfl, own_base HA2.out (by omega), b3.trans (B2.mono (by omega))⟩
      · rw [if_neg hle] at HT
        have hle2 : decide (mn ≤ 0) = false := decide_eq_false hle
        go_wp2_with (at_builtin; refine wpList_append_own _ rfl (.tmp 31) (.tmp 38) 159 rfl w3.heap.size 163 i0 (.agg #[.int .i64 0, .int .i64 0, .int .i64 0]) 3 24 Tryz.underlying159 hi hz0 hz1 hz2 rfl (by decide) _ _ _ rfl (World.ownsRow.alloc HA2.out _) ⟨W1.heap.size, 0, none⟩ 1 1 (fC (y0, y1, mn)) rfl rfl ?c1 ?c2 ?c3 ?c4 ?c5 ?_)
        case c1 =>
          intro j u hj
          simpa [fC] using hj
        case c2 => intro u hu; simp [fC] at hu; rcases hu with rfl | rfl | rfl <;> rfl
        case c3 => unfold maxLen; omega
        case c4 => omega
        case c5 => omega
        intro v' w4 ho' hg' _
        have HO' : Hid _ := ho'
        clear ho'
        go_wp2
        refine ⟨⟨k + 1, m - mn, acc ++ [(y0, y1, mn)], by omega, by norm_cast, rfl, by omega, by omega, by simp; omega, ?_, ?_, ?_⟩, by simp [intOf]; omega⟩
        · show _ = _
          rw [HR.out, HT.out]; simp
        · show World.ownsRow _ _ _ _ _ _ _
          rw [fiL_app, List.length_append]
          exact HO'.out
        · exact belG (B2.alloc (by omega) _) hg' (fun q hq => (World.ownsRow.lt HA2.out q hq).1) (by simp; omega)
    · have hd : decide ((k : Int) < J.length) = false := by simp only [decide_eq_false_iff_not]; omega
      go_wp2
      go_ret
      have hkl : s.drop k = [] := List.drop_eq_nil_of_le (by have := HSL.out; omega)
      have hr := HR.out
      rw [hkl] at hr
      simp only [fll, List.append_nil] at hr
      rw [HST.out, hr]
      exact ⟨.slice ac acc.length acap, rfl, own_base HA.out (by omega), b3.trans (hb.mono (by omega))⟩
end Go.Proofs.YtpekfpfhonechaaGreat.Cal

namespace Go.Proofs.YtpekfpfhonechaaGreat.Cal
open Go.Shelf Go.RowKit Go.Lib Go.Sort
set_option linter.unusedSimpArgs false
set_option linter.unusedVariables false

theorem append_none (c : Option Addr) (n cap : Nat) (h : n ≤ cap) (w : World) : (Builtin.append_ #[159, 159] 159 #[.slice c n cap, .slice none 0 0]).run Tryz.prog w = .ok (.slice c n cap) w := by
  obtain ⟨i0, hi, hz0, hz1, hz2⟩ := info_parts infoF
  have hu := run_underlying Tryz.underlying159
  have hn : ¬ cap < n := by omega
  cases c with
  | none => simp [Builtin.append_, hu, sizeOf, typeInfo, hi, Builtin.lenOf, Builtin.firstCells, loadCells, loadCellsFrom, h, hn]
  | some a => simp [storeCells, Builtin.append_, hu, sizeOf, typeInfo, hi, Builtin.lenOf, Builtin.firstCells, loadCells, loadCellsFrom, h, hn]
theorem wpList_append_givenC (w : World) {ops : Array Oper} {rest : List Oper} {o : Oper} {a : Act} {Q : Exit → Act → World → Prop} (hgd : o.guard = none) (s x : Operand) (t : TypeId)
    (ho : o.op = .call { callee := .builtin .append, args := #[s, x], argTypes := #[t, t] }) (v u : Value) (hs : a.eval s = v) (hx : a.eval x = u) {v' : Value} {w' : World}
    (hr : (Builtin.append_ #[t, t] o.type #[v, u]).run Tryz.prog w = .ok v' w') (h : wpList Tryz.prog ops Q rest (a.put o.dst v') w') : wpList Tryz.prog ops Q (o :: rest) a w :=
  wpList_plain hgd fun K hK => by
    unfold Oper.wp execOp
    simp only [ho, resolve, invoke, builtin, Sem.run_bind, Sem.run_pure, Result.andThen_ok, List.map_toArray, List.map_cons, List.map_nil, hs, hx, hr]
    exact hK _ _ h
theorem own_cap {w : World} {base : Nat} {e : TypeId} {sz : Nat} {c : Option Addr} {n m cap : Nat} {xs : List Value} (ho : w.ownsRow base e sz (.slice c n cap) m xs) : n ≤ cap := by
  rcases ho.2 with ⟨h1, h⟩ | ⟨g, cp, cur, h1, h2, h3, h4, _⟩
  · injection h1 with _ a b; omega
  · injection h1 with _ a b; omega

set_option maxHeartbeats 8000000 in
set_option maxRecDepth 100000 in
theorem fills_calls (v : Value) (l : List Od) (p n : Int) (w : World) (hl : Ods w v l) (hn : l.length ≤ 2932031007402) (hr : -9223372036854775808 ≤ n ∧ n ≤ 9223372036854775807) :
    Calls Tryz.prog 117 #[v, .int .i64 p, .int .i64 n] w fun e w' => ∃ v', e = .returned v' ∧ w'.ownsRow w.heap.size 163 3 v' (fills l p n).length (fiL (fills l p n)) ∧ Below w.heap.size w w' := by
  obtain ⟨i0, hi, hz0, hz1, hz2⟩ := info_parts infoF
  have e1 : ∀ args w, (callFunc 151 args).run Tryz.prog w = .ok (.enter 151 args) w := by intro args w; kernel_rfl
  have e2 : ∀ args w, (callFunc 153 args).run Tryz.prog w = .ok (.enter 153 args) w := by intro args w; kernel_rfl
  have e3 : ∀ args w, (callFunc 137 args).run Tryz.prog w = .ok (.enter 137 args) w := by intro args w; kernel_rfl
  have e4 : ∀ args w, (callFunc 140 args).run Tryz.prog w = .ok (.enter 140 args) w := by intro args w; kernel_rfl
  have HE : Hid _ := And.intro e1 (And.intro e2 (And.intro e3 e4))
  have HP : Hid _ := judged_calls v l w hl hn
  have HJ : Hid _ := jd_jdg l
  have HF : Hid (fills l p n = fll (stab (ltOf (fun a b : Od => cOr (cmI b.pr a.pr) (cmI a.pl b.pl))) ((jdg l).filter (bAt p))) n ++ fll (stab (ltOf (fun a b : Od => cOr (cmI a.pr b.pr) (cmI a.pl b.pl))) ((jdg l).filter (sAt p))) n) := rfl
  obtain ⟨pp, cap, rfl, hc⟩ := hl
  generalize fills l p n = F at *
  generalize jdg l = J at *
  have HL1 : Hid ((fll (stab (ltOf (fun a b : Od => cOr (cmI b.pr a.pr) (cmI a.pl b.pl))) (J.filter (bAt p))) n).length ≤ 64) := Nat.le_trans (fll_len _ _) (by rw [stab_len]; exact (Jd.filter HJ.out (bAt p)).1)
  have HL2 : Hid ((fll (stab (ltOf (fun a b : Od => cOr (cmI a.pr b.pr) (cmI a.pl b.pl))) (J.filter (sAt p))) n).length ≤ 64) := Nat.le_trans (fll_len _ _) (by rw [stab_len]; exact (Jd.filter HJ.out (sAt p)).1)
  clear hc e1 e2 e3 e4
  go_enter Tryz.func117, Tryz.ntmps117
  go_wp2_with fail
  refine Calls.mono HP.out ?_
  rintro e w1 ⟨v1, rfl, own1, b1⟩
  obtain ⟨oc, ocap, rfl⟩ := own_form own1
  have HD : Hid _ := ods_own own1
  clear own1
  go_wp2_with fail
  refine (buysAt_calls p w1).mono ?_
  rintro e w2 ⟨rfl, c2, g2⟩
  have b2 := g2.below
  have HC1 : Hid _ := filled_calls (bAt p) (fun a b : Od => cmI b.pr a.pr) swoB 151 #[.pointer (some ⟨w1.heap.size, 0, none⟩)] 137 _ J n w2 HE.out.1 HE.out.2.2.1 (Ods.below HD.out b2) HJ.out hr (fun o wx hb => (buysAt1_calls o p w1.heap.size wx ((hb.cell (World.block_lt_of_cell? w2 _ c2)).trans c2)).mono fun _ _ h => ⟨h.1, h.2.below⟩) (fun a b w => by1_calls a b w)
  obtain ⟨F1, hF1⟩ : ∃ F1, fll (stab (ltOf (fun a b : Od => cOr (cmI b.pr a.pr) (cmI a.pl b.pl))) (J.filter (bAt p))) n = F1 := ⟨_, rfl⟩
  obtain ⟨F2, hF2⟩ : ∃ F2, fll (stab (ltOf (fun a b : Od => cOr (cmI a.pr b.pr) (cmI a.pl b.pl))) (J.filter (sAt p))) n = F2 := ⟨_, rfl⟩
  rw [hF1, hF2] at HF
  rw [hF1] at HL1 HC1
  rw [hF2] at HL2
  have HF2 : Hid _ := hF2
  clear hF1 hF2
  go_wp2_with fail
  refine Calls.mono HC1.out ?_
  rintro e w3 ⟨v3, rfl, own3, b3⟩
  have B3 : Below w1.heap.size w1 w3 := b2.trans (b3.mono b2.size)
  obtain ⟨c3, cp3, rfl⟩ := own_form own3
  have HO3 : Hid _ := own3
  clear own3
  go_wp2_with fail
  refine (sellsAt_calls p w3).mono ?_
  rintro e w4 ⟨rfl, c4, g4⟩
  have b4 := g4.below
  have B4 : Below w1.heap.size w1 w4 := B3.trans (b4.mono B3.size)
  have HC2 : Hid _ := filled_calls (sAt p) (fun a b : Od => cmI a.pr b.pr) swoS 153 #[.pointer (some ⟨w3.heap.size, 0, none⟩)] 140 _ J n w4 HE.out.2.1 HE.out.2.2.2 (Ods.below HD.out B4) HJ.out hr (fun o wx hb => (sellsAt1_calls o p w3.heap.size wx ((hb.cell (World.block_lt_of_cell? w4 _ c4)).trans c4)).mono fun _ _ h => ⟨h.1, h.2.below⟩) (fun a b w => by2_calls a b w)
  rw [HF2.out] at HC2
  go_wp2_with fail
  refine Calls.mono HC2.out ?_
  rintro e w5 ⟨v5, rfl, own5, b5⟩
  have B5 : Below w1.heap.size w1 w5 := B4.trans (b5.mono B4.size)
  have HO5 : Hid _ := ownB (ownB HO3.out b4) b5
  have hz1' := b1.size
  have hz2' := b2.size
  have hz3' := B3.size
  have hz4' := B5.size
  have hz5' := b3.size
  have hz6' := b4.size
  have hz7' := b5.size
  have hl1 := HL1.out
  have hl2 := HL2.out
  rcases own5.2 with ⟨rfl, h0⟩ | ⟨g5, cap5, cur5, rfl, hg5, hB5, hnc5, hcm5, hcs5, ht5⟩
  · have hF0 : F2 = [] := List.eq_nil_of_length_eq_zero h0
    rw [hF0, List.append_nil] at HF
    have hcp := own_cap HO3.out
    clear own5
    go_wp2_with (at_builtin; refine wpList_append_givenC _ rfl (.tmp 21) (.tmp 22) 159 rfl _ _ rfl rfl (append_none c3 F1.length cp3 hcp _) ?_)
    go_wp2
    go_ret
    refine ⟨.slice c3 F1.length cp3, rfl, ?_, b1.trans (B5.mono hz1')⟩
    rw [HF.out]
    exact own_base HO5.out (by omega)
  · have HB5 : Hid (Blk w5 g5 cur5 163) := hB5
    have HT5 : Hid (cur5.toList.take (F2.length * 3) = fiL F2) := ht5
    clear own5 hB5 ht5 hcs5
    go_wp2_with (at_builtin; refine wpList_append_own _ rfl (.tmp 21) (.tmp 22) 159 rfl w2.heap.size 163 i0 (.agg #[.int .i64 0, .int .i64 0, .int .i64 0]) 3 24 Tryz.underlying159 hi hz0 hz1 hz2 rfl (by decide) _ _ _ rfl HO5.out ⟨g5, 0, none⟩ F2.length cap5 (fiL F2) rfl (fiL_len F2) ?c1 ?c2 ?c3 ?c4 ?c5 ?_)
    case c1 =>
      intro j u hj
      have hjl : j < F2.length * 3 := by have := (List.getElem?_eq_some_iff.1 hj).1; rw [fiL_len] at this; exact this
      first
        | rw [Addr.add_lit]
        | skip
      rw [← HT5.out, List.getElem?_take, if_pos hjl] at hj
      have hc := Blk.cell (w := w5) (k := g5) (o := j) (cs := cur5) (t := 163) (v := u) HB5.out (by simpa using hj)
      simpa using hc
    case c2 => exact fiL_one F2
    case c3 => unfold maxLen; omega
    case c4 => omega
    case c5 => omega
    intro v' w6 ho' hg' _
    have HO6 : Hid _ := ho'
    clear ho'
    go_wp2
    go_ret
    refine ⟨v', rfl, ?_, belG (b1.trans (B5.mono hz1')) hg' (fun q hq => by have := (World.ownsRow.lt HO5.out q hq).1; omega) (by omega)⟩
    rw [HF.out, List.length_append, fiL_app]
    exact own_base HO6.out (by omega)
end Go.Proofs.YtpekfpfhonechaaGreat.Cal

namespace Go.Proofs.YtpekfpfhonechaaGreat.Cal
open Go.Shelf Go.RowKit Go.Lib Go.Sort
set_option linter.unusedSimpArgs false
set_option linter.unusedVariables false

/-- A book: the next place, the orders. -/
structure Bo where
  nx : Int
  os : List Od
/-- What holds of each book. -/
structure BInv (B : Bo) : Prop where
  nx1 : 1 ≤ B.nx
  nx2 : B.nx ≤ 9007199254740992
  len : B.os.length ≤ 64
  may : ∀ o ∈ B.os, mayB o = true
  ids : B.os.Pairwise fun a b => a.id ≠ b.id
  pls : B.os.Pairwise fun a b => a.pl < b.pl
  pl : ∀ o ∈ B.os, 1 ≤ o.pl ∧ o.pl < B.nx
/-- All but a book's blocks is as it was. -/
structure Ofb (p : Nat) (v : Value) (w w' : World) : Prop where
  os : w'.os = w.os
  tape : w'.tape = w.tape
  output : w'.output = w.output
  size : w.heap.size ≤ w'.heap.size
  block : ∀ k, k < w.heap.size → k ≠ p → v.ownBlock ≠ some k → w'.heap[k]? = w.heap[k]?
theorem Ofb.refl (p : Nat) (v : Value) (w : World) : Ofb p v w w := ⟨rfl, rfl, rfl, Nat.le_refl _, fun _ _ _ _ => rfl⟩
theorem Ofb.of_below {p : Nat} {v : Value} {w w' : World} (h : Below w.heap.size w w') : Ofb p v w w' := ⟨h.os, h.tape, h.output, h.size, fun k hk _ _ => h.block k hk⟩
/-- Two steps; where the row lies behind the first one. -/
theorem Ofb.trans {p : Nat} {v v' : Value} {a b c : World} (h : Ofb p v a b) (hv : ∀ k, v'.ownBlock = some k → v.ownBlock = some k ∨ a.heap.size ≤ k) (k : Ofb p v' b c) : Ofb p v a c :=
  ⟨k.os.trans h.os, k.tape.trans h.tape, k.output.trans h.output, Nat.le_trans h.size k.size, fun i hi h1 h2 => (k.block i (Nat.lt_of_lt_of_le hi h.size) h1 (fun e => by
    rcases hv i e with f | f
    · exact h2 f
    · omega)).trans (h.block i hi h1 h2)⟩
theorem Ofb.below {p base : Nat} {v : Value} {w0 w w' : World} (h : Ofb p v w w') (hp : base ≤ p) (hv : ∀ k, v.ownBlock = some k → base ≤ k) (k : Below base w0 w) (hB : base ≤ w.heap.size) : Below base w0 w' :=
  k.trans ⟨h.os, h.tape, h.output, h.size, fun i hi => h.block i (by omega) (by omega) (fun e => by have := hv i e; omega)⟩
theorem Blk.ofb {w w' : World} {k p : Nat} {v : Value} {cs : Array Value} {t : TypeId} (h : Blk w k cs t) (ho : Ofb p v w w') (h1 : k ≠ p) (h2 : v.ownBlock ≠ some k) : Blk w' k cs t := (ho.block k h.lt h1 h2).trans h
/-- A book: its block, the row of its orders. -/
structure Bk (w : World) (base p : Nat) (v : Value) (B : Bo) : Prop where
  blk : Blk w p #[.int .i64 B.nx, v] 103
  row : w.ownsRow base 51 6 v B.os.length (odL B.os)
  le : base ≤ p
  ne : v.ownBlock ≠ some p
  inv : BInv B
variable {base p : Nat} {v : Value} {B : Bo}
theorem Bk.below {w w' : World} (h : Bk w base p v B) (hb : Below w.heap.size w w') : Bk w' base p v B := ⟨h.blk.below hb, ownB h.row hb, h.le, h.ne, h.inv⟩
theorem Bk.ods {w : World} (h : Bk w base p v B) : Ods w v B.os := ods_own h.row
theorem Bk.rowb {w : World} (h : Bk w base p v B) : ∀ k, v.ownBlock = some k → base ≤ k := fun k hk => (h.row.lt k hk).1
/-- Behind a step: the book, what else stayed, where the row lies. -/
structure Bst (w w' : World) (base p : Nat) (v v' : Value) (B : Bo) : Prop where
  bk : Bk w' base p v' B
  of : Ofb p v w w'
  at_ : ∀ k, v'.ownBlock = some k → v.ownBlock = some k ∨ w.heap.size ≤ k
theorem Bst.same {w w' : World} (h : Bk w base p v B) (hb : Below w.heap.size w w') : Bst w w' base p v v B := ⟨h.below hb, Ofb.of_below hb, fun k hk => Or.inl hk⟩
theorem Bst.trans {a b c : World} {v1 v2 v3 : Value} {B1 B2 : Bo} (h : Bst a b base p v1 v2 B1) (k : Bst b c base p v2 v3 B2) : Bst a c base p v1 v3 B2 :=
  ⟨k.bk, h.of.trans h.at_ k.of, fun q hq => by
    rcases k.at_ q hq with e | e
    · exact h.at_ q e
    · exact Or.inr (Nat.le_trans h.of.size e)⟩
theorem Bst.after {a b c : World} {v1 v2 : Value} {B1 : Bo} (h : Bst a b base p v1 v2 B1) (k : Below b.heap.size b c) : Bst a c base p v1 v2 B1 := h.trans (Bst.same h.bk k)
theorem Bst.first {a b c : World} {v1 v2 : Value} {B1 : Bo} (h : Below a.heap.size a b) (k : Bst b c base p v1 v2 B1) : Bst a c base p v1 v2 B1 :=
  ⟨k.bk, (Ofb.of_below h).trans (fun q hq => Or.inl hq) k.of, fun q hq => by
    rcases k.at_ q hq with e | e
    · exact Or.inl e
    · exact Or.inr (Nat.le_trans h.size e)⟩
theorem Bst.below {w0 w w' : World} {v' : Value} {B' : Bo} (h : Bst w w' base p v v' B') (k : Bk w base p v B) (hb : Below base w0 w) (hB : base ≤ w.heap.size) : Below base w0 w' := h.of.below k.le k.rowb hb hB

set_option maxRecDepth 100000 in
theorem made_calls (w : World) (h : Bk w base p v B) : Calls Tryz.prog 37 #[.pointer (some ⟨p, 0, none⟩)] w fun e w' => e = .returned (.bool true) ∧ w' = w := by
  have c0 : w.cell? ⟨p, 0, none⟩ = some (.int .i64 B.nx) := h.blk.cell rfl
  have h1 := h.inv.nx1
  have hd : decide (0 < B.nx) = true := decide_eq_true (by omega)
  go_enter Tryz.func37, Tryz.ntmps37
  go_wp2
  go_ret
  exact ⟨by simp, rfl⟩
set_option maxRecDepth 100000 in
theorem outOf_calls (w : World) (h : Bk w base p v B) : Calls Tryz.prog 112 #[.pointer (some ⟨p, 0, none⟩)] w fun e w' => e = .returned (.bool (decide (B.nx = 9007199254740992))) ∧ w' = w := by
  have c0 : w.cell? ⟨p, 0, none⟩ = some (.int .i64 B.nx) := h.blk.cell rfl
  go_enter Tryz.func112, Tryz.ntmps112
  go_wp2
  go_ret
  exact ⟨by congr 1, rfl⟩

/-- The first that is chosen; -1: none. -/
def ixf (f : Od → Bool) (l : List Od) : Int := if l.findIdx f < l.length then (l.findIdx f : Int) else -1
set_option maxHeartbeats 4000000 in
set_option maxRecDepth 100000 in
theorem indexFunc_calls (f : Od → Bool) (g : Nat) (cb : Array Value) (v : Value) (l : List Od) (w : World) (eg : ∀ args w, (callFunc g args).run Tryz.prog w = .ok (.enter g args) w) (hl : Ods w v l) (hn : l.length ≤ 1000000)
    (hf : ∀ o wx, Below w.heap.size w wx → Calls Tryz.prog g (#[.agg (oC o).toArray] ++ cb) wx fun e w' => e = .returned (.bool (f o)) ∧ Below wx.heap.size wx w') :
    Calls Tryz.prog 130 #[v, .func (.func g) #[] cb] w fun e w' => e = .returned (.int .i64 (ixf f l)) ∧ Below w.heap.size w w' := by
  obtain ⟨pp, cap, rfl, hc⟩ := hl
  have HC : Hid _ := hc
  have HF : Hid _ := hf
  have HX : Hid (ixf f l = if l.findIdx f < l.length then (l.findIdx f : Int) else -1) := rfl
  clear hc hf
  go_enter Tryz.func130, Tryz.ntmps130
  go_wp2
  go_loopw [8] (fun i wr => ∃ k : Nat, k ≤ l.length ∧ i = .int .i64 k ∧ Hid (k ≤ l.findIdx f) ∧ Below w.heap.size w wr) (fun i _ => l.length - (intOf i).toNat)
  case atStart => exact ⟨0, Nat.zero_le _, rfl, Nat.zero_le _, Below.refl _ _⟩
  case round =>
    obtain ⟨k, hk, rfl, HK, hb⟩ := hrel
    have hz := hb.size
    by_cases hlt : k < l.length
    · have hd : decide ((k : Int) < l.length) = true := by simp only [decide_eq_true_eq]; omega
      obtain ⟨o, ho⟩ : ∃ o, l[k]? = some o := ⟨l[k], by simp [hlt]⟩
      rcases HC.out with hnil | ⟨gb, off, hp, hcs⟩
      · exfalso; rw [hnil] at hlt; simp at hlt
      subst hp
      obtain ⟨c0, c1, c2, c3, c4, c5⟩ := Ods.six hcs ho
      have hbl := World.block_lt_of_cell? w _ c0
      have d0 := (hb.cell (p := ⟨gb, off + k * 6, none⟩) hbl).trans c0
      have d1 := (hb.cell (p := ⟨gb, off + k * 6 + 1, none⟩) hbl).trans c1
      have d2 := (hb.cell (p := ⟨gb, off + k * 6 + 2, none⟩) hbl).trans c2
      have d3 := (hb.cell (p := ⟨gb, off + k * 6 + 3, none⟩) hbl).trans c3
      have d4 := (hb.cell (p := ⟨gb, off + k * 6 + 4, none⟩) hbl).trans c4
      have d5 := (hb.cell (p := ⟨gb, off + k * 6 + 5, none⟩) hbl).trans c5
      have HF1 : Hid _ := HF.out o wr hb
      have hok := List.getElem?_eq_some_iff.1 ho
      have HOK : Hid (∃ h : k < l.length, l[k] = o) := hok
      clear c0 c1 c2 c3 c4 c5 hcs ho hok
      cases hfo : f o
      · rw [hfo] at HF1
        go_wp2_with fail
        go_at_fn g
        refine Calls.mono HF1.out ?_
        rintro e w2 ⟨rfl, b2⟩
        go_wp2
        refine ⟨⟨k + 1, by omega, by norm_cast, ?_, hb.trans (b2.mono hz)⟩, by simp [intOf]; omega⟩
        show k + 1 ≤ l.findIdx f
        have h1 := HK.out
        rcases Nat.lt_or_ge k (l.findIdx f) with h2 | h2
        · exact h2
        · exfalso
          have h3 : l.findIdx f = k := by omega
          have h4 := List.findIdx_getElem (xs := l) (p := f) (w := by rw [h3]; exact hlt)
          obtain ⟨_, h5⟩ := HOK.out
          simp only [h3, h5, hfo] at h4
          cases h4
      · rw [hfo] at HF1
        go_wp2_with fail
        go_at_fn g
        refine Calls.mono HF1.out ?_
        rintro e w2 ⟨rfl, b2⟩
        go_wp2
        go_ret
        refine ⟨?_, hb.trans (b2.mono hz)⟩
        obtain ⟨_, h5⟩ := HOK.out
        have h3 : l.findIdx f = k := by
          have h1 := HK.out
          rcases Nat.lt_or_ge k (l.findIdx f) with h2 | h2
          · exfalso
            have := List.not_of_lt_findIdx (xs := l) (p := f) h2
            rw [h5, hfo] at this
            cases this
          · omega
        rw [HX.out, h3, if_pos hlt]
        rfl
    · have hd : decide ((k : Int) < l.length) = false := by simp only [decide_eq_false_iff_not]; omega
      go_wp2
      go_ret
      refine ⟨?_, hb⟩
      rw [HX.out, if_neg (by have := HK.out; omega)]
      rfl

/-- Where the order of an Id stands. -/
def fnd (l : List Od) (x : Int) : Int := ixf (fun o => o.id == x) l
set_option maxRecDepth 100000 in
theorem find1_calls (o : Od) (x : Int) (bx : Nat) (w : World) (c : w.cell? ⟨bx, 0, none⟩ = some (.int .i64 x)) : Calls Tryz.prog 131 #[.agg (oC o).toArray, .pointer (some ⟨bx, 0, none⟩)] w fun e w' => e = .returned (.bool (o.id == x)) ∧ Gr w w' := by
  have hb := World.block_lt_of_cell? w _ c
  have hlt : bx < w.heap.size := hb
  have c2 := fun ob => (((Below.refl w.heap.size w).alloc (Nat.le_refl _) ob).cell (p := ⟨bx, 0, none⟩) hb).trans c
  unfold oC
  generalize o.id = x1 at *
  generalize o.own = x2 at *
  generalize o.pr = x3 at *
  generalize o.am = x4 at *
  generalize o.pl = x5 at *
  generalize o.by = x6 at *
  go_enter Tryz.func131, Tryz.ntmps131
  go_wp2
  go_ret
  exact ⟨rfl, (Gr.refl _).alloc _⟩
set_option maxHeartbeats 1000000 in
set_option maxRecDepth 100000 in
theorem find_calls (x : Int) (w : World) (h : Bk w base p v B) : Calls Tryz.prog 111 #[.pointer (some ⟨p, 0, none⟩), .int .i64 x] w fun e w' => e = .returned (.int .i64 (fnd B.os x)) ∧ Below w.heap.size w w' := by
  have e1 : ∀ args w, (callFunc 131 args).run Tryz.prog w = .ok (.enter 131 args) w := by intro args w; kernel_rfl
  obtain ⟨W0, hW0, X0, B0, Z0⟩ : ∃ W0, (w.alloc (.cells #[.int .i64 x] 3)) = W0 ∧ Blk W0 w.heap.size #[.int .i64 x] 3 ∧ Below w.heap.size w W0 ∧ W0.heap.size = w.heap.size + 1 :=
    ⟨_, rfl, blk_new _ _ _ _ rfl, by go_grown, by simp⟩
  have c0 : W0.cell? ⟨p, 1, none⟩ = some v := (h.blk.below B0).cell rfl
  have hcx : W0.cell? ⟨w.heap.size, 0, none⟩ = some (.int .i64 x) := X0.cell rfl
  have HC : Hid _ := indexFunc_calls (fun o => o.id == x) 131 #[.pointer (some ⟨w.heap.size, 0, none⟩)] v B.os W0 e1 (h.ods.below B0) (by have := h.inv.len; omega) (fun o wx hb => (find1_calls o x w.heap.size wx ((hb.cell (p := ⟨w.heap.size, 0, none⟩) X0.lt).trans hcx)).mono fun _ _ k => ⟨k.1, k.2.below⟩)
  obtain ⟨oc, ocap, rfl⟩ := own_form h.row
  clear e1 h hcx X0
  go_enter Tryz.func111, Tryz.ntmps111
  go_wp2_with fail
  refine Calls.mono HC.out ?_
  rintro e w1 ⟨rfl, b1⟩
  go_wp2
  go_ret
  exact ⟨rfl, B0.trans (b1.mono (by omega))⟩

theorem binv_new : BInv ⟨1, []⟩ := ⟨by decide, by decide, by decide, by simp, List.Pairwise.nil, List.Pairwise.nil, by simp⟩
set_option maxRecDepth 100000 in
theorem new_calls (w : World) : Calls Tryz.prog 23 #[] w fun e w' => e = .returned (.pointer (some ⟨w.heap.size, 0, none⟩)) ∧ Bk w' w.heap.size w.heap.size (.slice none 0 0) ⟨1, []⟩ ∧ Below w.heap.size w w' := by
  go_enter Tryz.func23, Tryz.ntmps23
  go_wp2
  go_ret
  exact ⟨rfl, ⟨blk_new _ _ _ _ rfl, World.ownsRow_nil _ _ _ _, Nat.le_refl _, by simp [Value.ownBlock], binv_new⟩, (Below.refl _ _).alloc (Nat.le_refl _) _⟩
end Go.Proofs.YtpekfpfhonechaaGreat.Cal

namespace Go.Proofs.YtpekfpfhonechaaGreat.Cal
open Go.Shelf Go.RowKit Go.Lib Go.Sort
set_option linter.unusedSimpArgs false
set_option linter.unusedVariables false
variable {base p : Nat} {v : Value} {B : Bo}

theorem oCA_same (a b : Od) : (oC a).toArray.size = (oC b).toArray.size := rfl
theorem oCA_one (o : Od) : (oC o).toArray.all (·.oneCell') = true := by simp [oC, Value.oneCell']
theorem fnd_cases (l : List Od) (x : Int) : (fnd l x = -1 ∧ ∀ o ∈ l, o.id ≠ x) ∨ ∃ (i : Nat) (o : Od), fnd l x = i ∧ l[i]? = some o ∧ o.id = x ∧ i < l.length := by
  unfold fnd ixf
  by_cases h : l.findIdx (fun o => o.id == x) < l.length
  · right
    refine ⟨_, l[l.findIdx (fun o => o.id == x)], by rw [if_pos h], by simp [h], ?_, h⟩
    have := List.findIdx_getElem (xs := l) (p := fun o => o.id == x) (w := h)
    simpa using this
  · left
    refine ⟨by rw [if_neg h], fun o ho e => h ?_⟩
    exact List.findIdx_lt_length_of_exists ⟨o, ho, by simpa using e⟩
/-- What Get tells. -/
def gtB (l : List Od) (x : Int) : Od × Bool := match l.find? (fun o => o.id == x) with
  | some o => (o, true)
  | none => ((0, 0, 0, 0, 0, false), false)
theorem gtB_none {l : List Od} {x : Int} (h : ∀ o ∈ l, o.id ≠ x) : gtB l x = ((0, 0, 0, 0, 0, false), false) := by
  unfold gtB
  rw [List.find?_eq_none.2 (fun o ho => by simpa using h o ho)]
theorem gtB_some {l : List Od} {x : Int} {i : Nat} {o : Od} (hf : fnd l x = i) (ho : l[i]? = some o) (hx : o.id = x) : gtB l x = (o, true) := by
  have hl := (List.getElem?_eq_some_iff.1 ho).1
  have e : l.findIdx (fun o => o.id == x) = i := by
    unfold fnd ixf at hf
    split at hf <;> omega
  have h2 : l.find? (fun o => o.id == x) = some o := by
    rw [List.find?_eq_some_iff_getElem]
    obtain ⟨h3, h4⟩ := List.getElem?_eq_some_iff.1 ho
    refine ⟨by simpa using hx, i, h3, h4, fun j hj => ?_⟩
    have := List.not_of_lt_findIdx (xs := l) (p := fun o => o.id == x) (i := j) (by omega)
    simpa using this
  unfold gtB
  rw [h2]

set_option maxHeartbeats 4000000 in
set_option maxRecDepth 100000 in
theorem get_calls (x : Int) (w : World) (h : Bk w base p v B) : Calls Tryz.prog 84 #[.pointer (some ⟨p, 0, none⟩), .int .i64 x] w fun e w' => e = .returned (.tuple #[.agg (oC (gtB B.os x).1).toArray, .bool (gtB B.os x).2]) ∧ Below w.heap.size w w' := by
  obtain ⟨W0, hW0, X0, B0, Z0⟩ : ∃ W0, (w.alloc (.cells #[.int .i64 0, .int .i64 0, .int .i64 0, .int .i64 0, .int .i64 0, .bool false] 51)) = W0 ∧ Blk W0 w.heap.size #[.int .i64 0, .int .i64 0, .int .i64 0, .int .i64 0, .int .i64 0, .bool false] 51 ∧ Below w.heap.size w W0 ∧ W0.heap.size = w.heap.size + 1 :=
    ⟨_, rfl, blk_new _ _ _ _ rfl, by go_grown, by simp⟩
  have h0 := h.below B0
  have hm := made_calls W0 h0
  have HF : Hid _ := find_calls x W0 h0
  rcases fnd_cases B.os x with ⟨h1, h2⟩ | ⟨i, o, h1, h2, h3, h4⟩
  · rw [h1] at HF
    rw [gtB_none h2]
    clear h1 h2 h
    go_enter Tryz.func84, Tryz.ntmps84
    go_wp2_with fail
    refine hm.mono ?_
    rintro e w1 ⟨rfl, rfl⟩
    go_wp2_with fail
    refine Calls.mono HF.out ?_
    rintro e w2 ⟨rfl, b2⟩
    have X2 : Blk w2 w.heap.size (oC (0, 0, 0, 0, 0, false)).toArray 51 := X0.below b2
    obtain ⟨W3, hW3, X3, H3, Z3, O3⟩ := setRow_named X2 (oC (0, 0, 0, 0, 0, false)).toArray
    have q0 : W3.cell? ⟨w.heap.size, 0, none⟩ = some (.int .i64 0) := X3.cell rfl
    have q1 : W3.cell? ⟨w.heap.size, 1, none⟩ = some (.int .i64 0) := X3.cell rfl
    have q2 : W3.cell? ⟨w.heap.size, 2, none⟩ = some (.int .i64 0) := X3.cell rfl
    have q3 : W3.cell? ⟨w.heap.size, 3, none⟩ = some (.int .i64 0) := X3.cell rfl
    have q4 : W3.cell? ⟨w.heap.size, 4, none⟩ = some (.int .i64 0) := X3.cell rfl
    have q5 : W3.cell? ⟨w.heap.size, 5, none⟩ = some (.bool false) := X3.cell rfl
    go_wp2_with ((with_reducible refine st_row (ty := 51) (cs' := (oC (0, 0, 0, 0, 0, false)).toArray) X2 (infoO6 _) (oCA_same _ _) (oCA_one _) hW3 ?_ ?_ ?_); rfl; rfl)
    refine bodyPost_ret (v := .tuple #[.agg (oC (0, 0, 0, 0, 0, false)).toArray, .bool false]) (by simp [results, Tryz.results84, go_sem, q0, q1, q2, q3, q4, q5]; rfl) rfl ⟨rfl, ?_⟩
    exact below_row (B0.trans (b2.mono (by omega))) hW3 (Nat.le_refl _)
  · rw [h1] at HF
    rw [gtB_some h1 h2 h3]
    have HO : Hid _ := h2
    obtain ⟨oc, ocap, rfl⟩ := own_form h.row
    clear h1 h2 h3 h
    go_enter Tryz.func84, Tryz.ntmps84
    go_wp2_with fail
    refine hm.mono ?_
    rintro e w1 ⟨rfl, rfl⟩
    go_wp2_with fail
    refine Calls.mono HF.out ?_
    rintro e w2 ⟨rfl, b2⟩
    have X2 : Blk w2 w.heap.size (oC (0, 0, 0, 0, 0, false)).toArray 51 := X0.below b2
    have K2 := h0.below b2
    have c1 : w2.cell? ⟨p, 1, none⟩ = some (.slice oc B.os.length ocap) := K2.blk.cell rfl
    obtain ⟨pp, cap, hv, hcs⟩ := K2.ods
    injection hv with hv1 hv2 hv3
    clear hv2
    subst hv1 hv3
    rcases hcs with hnil | ⟨gb, off, hp, hcs⟩
    · exfalso; rw [hnil] at h4; simp at h4
    subst hp
    obtain ⟨d0, d1, d2, d3, d4, d5⟩ := Ods.six hcs HO.out
    obtain ⟨W3, hW3, X3, H3, Z3, O3⟩ := setRow_named X2 (oC o).toArray
    have q0 : W3.cell? ⟨w.heap.size, 0, none⟩ = some (.int .i64 o.id) := X3.cell rfl
    have q1 : W3.cell? ⟨w.heap.size, 1, none⟩ = some (.int .i64 o.own) := X3.cell rfl
    have q2 : W3.cell? ⟨w.heap.size, 2, none⟩ = some (.int .i64 o.pr) := X3.cell rfl
    have q3 : W3.cell? ⟨w.heap.size, 3, none⟩ = some (.int .i64 o.am) := X3.cell rfl
    have q4 : W3.cell? ⟨w.heap.size, 4, none⟩ = some (.int .i64 o.pl) := X3.cell rfl
    have q5 : W3.cell? ⟨w.heap.size, 5, none⟩ = some (.bool o.by) := X3.cell rfl
    have hi0 : ¬ (i : Int) < 0 := by omega
    have hi1 : (i : Int) < (B.os.length : Int) := by omega
    clear hcs
    go_wp2_with ((with_reducible refine st_row (ty := 51) (cs' := (oC o).toArray) X2 (infoO6 _) (oCA_same _ _) (oCA_one _) hW3 ?_ ?_ ?_); rfl; rfl)
    refine bodyPost_ret (v := .tuple #[.agg (oC o).toArray, .bool true]) (by simp [results, Tryz.results84, go_sem, q0, q1, q2, q3, q4, q5]; rfl) rfl ⟨rfl, ?_⟩
    exact below_row (B0.trans (b2.mono (by omega))) hW3 (Nat.le_refl _)

set_option maxHeartbeats 4000000 in
set_option maxRecDepth 100000 in
theorem clone_calls (v : Value) (l : List Od) (w : World) (hv : w.ownsRow base 51 6 v l.length (odL l)) (hn : l.length ≤ 1000000) :
    Calls Tryz.prog 38 #[v] w fun e w' => ∃ v', e = .returned v' ∧ w'.ownsRow w.heap.size 51 6 v' l.length (odL l) ∧ Below w.heap.size w w' := by
  obtain ⟨i0, hi, hz0, hz1, hz2⟩ := info_parts infoO
  rcases hv.2 with ⟨rfl, h0⟩ | ⟨g, cap, cur, rfl, hg, hB, hnc, hcm, hcs, ht⟩
  · have hl : l = [] := List.eq_nil_of_length_eq_zero h0
    subst hl
    have hq : ∀ w, (binOp .eql 48 (.slice none 0 0) (.slice none 0 0)).run Tryz.prog w = .ok (.bool true) w := fun w => Lib.run_eql_slice_nil w 48 51 none 0 0 0 0 Tryz.underlying48
    go_enter Tryz.func38, Tryz.ntmps38
    go_wp2
    go_ret
    exact ⟨_, rfl, World.ownsRow_nil _ _ _ _, Below.refl _ _⟩
  · have HB : Hid (Blk w g cur 51) := hB
    have HT : Hid (cur.toList.take (l.length * 6) = odL l) := ht
    clear hB ht hcs hv
    have hq : ∀ w, (binOp .eql 48 (.slice (some ⟨g, 0, none⟩) l.length cap) (.slice none 0 0)).run Tryz.prog w = .ok (.bool false) w := fun w => Lib.run_eql_slice_nil w 48 51 (some ⟨g, 0, none⟩) l.length cap 0 0 Tryz.underlying48
    go_enter Tryz.func38, Tryz.ntmps38
    go_wp2_with (at_builtin; refine wpList_append_own _ rfl (.tmp 5) (.tmp 6) 48 rfl w.heap.size 51 i0 (.agg #[.int .i64 0, .int .i64 0, .int .i64 0, .int .i64 0, .int .i64 0, .bool false]) 6 48 Tryz.underlying48 hi hz0 hz1 hz2 rfl (by decide) _ 0 [] rfl (World.ownsRow_made w #[] 0 (Nat.le_refl _) (by decide) rfl) ⟨g, 0, none⟩ l.length cap (odL l) rfl (odL_len l) ?c1 ?c2 ?c3 ?c4 ?c5 ?_)
    case c1 =>
      intro j u hj
      have hjl : j < l.length * 6 := by have := (List.getElem?_eq_some_iff.1 hj).1; rw [odL_len] at this; exact this
      first
        | rw [Addr.add_lit]
        | skip
      rw [← HT.out, List.getElem?_take, if_pos hjl] at hj
      have hc := Blk.cell (w := w) (k := g) (o := j) (cs := cur) (t := 51) (v := u) HB.out (by simpa using hj)
      have hc2 := (((Below.refl w.heap.size w).alloc (Nat.le_refl _) (.cells #[] 51)).cell (p := ⟨g, j, none⟩) (Blk.lt HB.out)).trans hc
      simpa using hc2
    case c2 => exact odL_one l
    case c3 => unfold maxLen; omega
    case c4 => omega
    case c5 => simp
    intro v' w6 ho' hg' _
    have HO6 : Hid _ := ho'
    clear ho'
    go_wp2
    go_ret
    refine ⟨v', rfl, ?_, belG ((Below.refl _ _).alloc (Nat.le_refl _) _) hg' (fun q hq => by simp [Value.ownBlock] at hq; omega) (by simp)⟩
    have := HO6.out
    exact this
set_option maxHeartbeats 1000000 in
set_option maxRecDepth 100000 in
theorem orders_calls (w : World) (h : Bk w base p v B) : Calls Tryz.prog 21 #[.pointer (some ⟨p, 0, none⟩)] w fun e w' => ∃ v', e = .returned v' ∧ w'.ownsRow w.heap.size 51 6 v' B.os.length (odL B.os) ∧ Below w.heap.size w w' := by
  have hm := made_calls w h
  have c1 : w.cell? ⟨p, 1, none⟩ = some v := h.blk.cell rfl
  have HC : Hid _ := clone_calls v B.os w h.row (by have := h.inv.len; omega)
  obtain ⟨oc, ocap, rfl⟩ := own_form h.row
  clear h
  go_enter Tryz.func21, Tryz.ntmps21
  go_wp2_with fail
  refine hm.mono ?_
  rintro e w1 ⟨rfl, rfl⟩
  go_wp2_with fail
  refine Calls.mono HC.out ?_
  rintro e w2 ⟨v2, rfl, own2, b2⟩
  have HO2 : Hid _ := own2
  clear own2
  go_wp2
  go_ret
  exact ⟨v2, rfl, HO2.out, b2⟩
end Go.Proofs.YtpekfpfhonechaaGreat.Cal
