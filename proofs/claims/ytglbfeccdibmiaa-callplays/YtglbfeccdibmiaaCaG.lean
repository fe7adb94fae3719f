/- Fills, of both sides. -/
import Derived.Test.YtglbfeccdibmiaaCaF
namespace Go.Proofs.Ytglbfeccdibmiaa
open Go.Shelf Go.RowKit Go.Lib Go.Sort
set_option linter.unusedSimpArgs false
set_option linter.unusedVariables false

theorem append_none (c : Option Addr) (n cap : Nat) (h : n ≤ cap) (w : World) : (Builtin.append_ #[46, 46] 46 #[.slice c n cap, .slice none 0 0]).run Try.prog w = .ok (.slice c n cap) w := by
  obtain ⟨i0, hi, hz0, hz1, hz2⟩ := info_parts infoF
  have hu := run_underlying Try.underlying46
  have hn : ¬ cap < n := by omega
  cases c with
  | none => simp [Builtin.append_, hu, sizeOf, typeInfo, hi, Builtin.lenOf, Builtin.firstCells, loadCells, loadCellsFrom, h, hn]
  | some a => simp [storeCells, Builtin.append_, hu, sizeOf, typeInfo, hi, Builtin.lenOf, Builtin.firstCells, loadCells, loadCellsFrom, h, hn]
theorem wpList_append_givenC (w : World) {ops : Array Oper} {rest : List Oper} {o : Oper} {a : Act} {Q : Exit → Act → World → Prop} (hgd : o.guard = none) (s x : Operand) (t : TypeId)
    (ho : o.op = .call { callee := .builtin .append, args := #[s, x], argTypes := #[t, t] }) (v u : Value) (hs : a.eval s = v) (hx : a.eval x = u) {v' : Value} {w' : World}
    (hr : (Builtin.append_ #[t, t] o.type #[v, u]).run Try.prog w = .ok v' w') (h : wpList Try.prog ops Q rest (a.put o.dst v') w') : wpList Try.prog ops Q (o :: rest) a w :=
  wpList_plain hgd fun K hK => by
    unfold Oper.wp execOp
    simp only [ho, resolve, invoke, builtin, Sem.run_bind, Sem.run_pure, Result.andThen_ok, List.map_toArray, List.map_cons, List.map_nil, hs, hx, hr]
    exact hK _ _ h
theorem own_cap {w : World} {base : Nat} {e : TypeId} {sz : Nat} {c : Option Addr} {n m cap : Nat} {xs : List Value} (ho : w.ownsRow base e sz (.slice c n cap) m xs) : n ≤ cap := by
  rcases ho.2 with ⟨h1, h⟩ | ⟨g, cp, cur, h1, h2, h3, h4, _⟩
  · injection h1 with _ a b; omega
  · injection h1 with _ a b; omega

set_option maxHeartbeats 8000000 in
set_option maxRecDepth 100000 in
theorem fills_calls (v : Value) (l : List Od) (p n : Int) (w : World) (hl : Ods w v l) (hn : l.length ≤ 2932031007402) (hr : -9223372036854775808 ≤ n ∧ n ≤ 9223372036854775807) :
    Calls Try.prog 36 #[v, .int .i64 p, .int .i64 n] w fun e w' => ∃ v', e = .returned v' ∧ w'.ownsRow w.heap.size 62 3 v' (fills l p n).length (fiL (fills l p n)) ∧ Below w.heap.size w w' := by
  obtain ⟨i0, hi, hz0, hz1, hz2⟩ := info_parts infoF
  have e1 : ∀ args w, (callFunc 68 args).run Try.prog w = .ok (.enter 68 args) w := by intro args w; kernel_rfl
  have e2 : ∀ args w, (callFunc 70 args).run Try.prog w = .ok (.enter 70 args) w := by intro args w; kernel_rfl
  have e3 : ∀ args w, (callFunc 54 args).run Try.prog w = .ok (.enter 54 args) w := by intro args w; kernel_rfl
  have e4 : ∀ args w, (callFunc 57 args).run Try.prog w = .ok (.enter 57 args) w := by intro args w; kernel_rfl
  have HE : Hid _ := And.intro e1 (And.intro e2 (And.intro e3 e4))
  have HP : Hid _ := judged_calls v l w hl hn
  have HJ : Hid _ := jd_jdg l
  have HF : Hid (fills l p n = fll (stab (ltOf (fun a b : Od => cOr (cmI b.pr a.pr) (cmI a.pl b.pl))) ((jdg l).filter (bAt p))) n ++ fll (stab (ltOf (fun a b : Od => cOr (cmI a.pr b.pr) (cmI a.pl b.pl))) ((jdg l).filter (sAt p))) n) := rfl
  obtain ⟨pp, cap, rfl, hc⟩ := hl
  generalize fills l p n = F at *
  generalize jdg l = J at *
  have HL1 : Hid ((fll (stab (ltOf (fun a b : Od => cOr (cmI b.pr a.pr) (cmI a.pl b.pl))) (J.filter (bAt p))) n).length ≤ 64) := Nat.le_trans (fll_len _ _) (by rw [stab_len]; exact (Jd.filter HJ.out (bAt p)).1)
  have HL2 : Hid ((fll (stab (ltOf (fun a b : Od => cOr (cmI a.pr b.pr) (cmI a.pl b.pl))) (J.filter (sAt p))) n).length ≤ 64) := Nat.le_trans (fll_len _ _) (by rw [stab_len]; exact (Jd.filter HJ.out (sAt p)).1)
  clear hc e1 e2 e3 e4
  go_enter Try.func36, Try.ntmps36
  go_wp2_with fail
  refine Calls.mono HP.out ?_
  rintro e w1 ⟨v1, rfl, own1, b1⟩
  obtain ⟨oc, ocap, rfl⟩ := own_form own1
  have HD : Hid _ := ods_own own1
  clear own1
  go_wp2_with fail
  refine (buysAt_calls p w1).mono ?_
  rintro e w2 ⟨rfl, c2, g2⟩
  have b2 := g2.below
  have HC1 : Hid _ := filled_calls (bAt p) (fun a b : Od => cmI b.pr a.pr) swoB 68 #[.pointer (some ⟨w1.heap.size, 0, none⟩)] 54 _ J n w2 HE.out.1 HE.out.2.2.1 (Ods.below HD.out b2) HJ.out hr (fun o wx hb => (buysAt1_calls o p w1.heap.size wx ((hb.cell (World.block_lt_of_cell? w2 _ c2)).trans c2)).mono fun _ _ h => ⟨h.1, h.2.below⟩) (fun a b w => by1_calls a b w)
  obtain ⟨F1, hF1⟩ : ∃ F1, fll (stab (ltOf (fun a b : Od => cOr (cmI b.pr a.pr) (cmI a.pl b.pl))) (J.filter (bAt p))) n = F1 := ⟨_, rfl⟩
  obtain ⟨F2, hF2⟩ : ∃ F2, fll (stab (ltOf (fun a b : Od => cOr (cmI a.pr b.pr) (cmI a.pl b.pl))) (J.filter (sAt p))) n = F2 := ⟨_, rfl⟩
  rw [hF1, hF2] at HF
  rw [hF1] at HL1 HC1
  rw [hF2] at HL2
  have HF2 : Hid _ := hF2
  clear hF1 hF2
  go_wp2_with fail
  refine Calls.mono HC1.out ?_
  rintro e w3 ⟨v3, rfl, own3, b3⟩
  have B3 : Below w1.heap.size w1 w3 := b2.trans (b3.mono b2.size)
  obtain ⟨c3, cp3, rfl⟩ := own_form own3
  have HO3 : Hid _ := own3
  clear own3
  go_wp2_with fail
  refine (sellsAt_calls p w3).mono ?_
  rintro e w4 ⟨rfl, c4, g4⟩
  have b4 := g4.below
  have B4 : Below w1.heap.size w1 w4 := B3.trans (b4.mono B3.size)
  have HC2 : Hid _ := filled_calls (sAt p) (fun a b : Od => cmI a.pr b.pr) swoS 70 #[.pointer (some ⟨w3.heap.size, 0, none⟩)] 57 _ J n w4 HE.out.2.1 HE.out.2.2.2 (Ods.below HD.out B4) HJ.out hr (fun o wx hb => (sellsAt1_calls o p w3.heap.size wx ((hb.cell (World.block_lt_of_cell? w4 _ c4)).trans c4)).mono fun _ _ h => ⟨h.1, h.2.below⟩) (fun a b w => by2_calls a b w)
  rw [HF2.out] at HC2
  go_wp2_with fail
  refine Calls.mono HC2.out ?_
  rintro e w5 ⟨v5, rfl, own5, b5⟩
  have B5 : Below w1.heap.size w1 w5 := B4.trans (b5.mono B4.size)
  have HO5 : Hid _ := ownB (ownB HO3.out b4) b5
  have hz1' := b1.size
  have hz2' := b2.size
  have hz3' := B3.size
  have hz4' := B5.size
  have hz5' := b3.size
  have hz6' := b4.size
  have hz7' := b5.size
  have hl1 := HL1.out
  have hl2 := HL2.out
  rcases own5.2 with ⟨rfl, h0⟩ | ⟨g5, cap5, cur5, rfl, hg5, hB5, hnc5, hcm5, hcs5, ht5⟩
  · have hF0 : F2 = [] := List.eq_nil_of_length_eq_zero h0
    rw [hF0, List.append_nil] at HF
    have hcp := own_cap HO3.out
    clear own5
    go_wp2_with (at_builtin; refine wpList_append_givenC _ rfl (.tmp 21) (.tmp 22) 46 rfl _ _ rfl rfl (append_none c3 F1.length cp3 hcp _) ?_)
    go_wp2
    go_ret
    refine ⟨.slice c3 F1.length cp3, rfl, ?_, b1.trans (B5.mono hz1')⟩
    rw [HF.out]
    exact own_base HO5.out (by omega)
  · have HB5 : Hid (Blk w5 g5 cur5 62) := hB5
    have HT5 : Hid (cur5.toList.take (F2.length * 3) = fiL F2) := ht5
    clear own5 hB5 ht5 hcs5
    go_wp2_with (at_builtin; refine wpList_append_own _ rfl (.tmp 21) (.tmp 22) 46 rfl w2.heap.size 62 i0 (.agg #[.int .i64 0, .int .i64 0, .int .i64 0]) 3 24 Try.underlying46 hi hz0 hz1 hz2 rfl (by decide) _ _ _ rfl HO5.out ⟨g5, 0, none⟩ F2.length cap5 (fiL F2) rfl (fiL_len F2) ?c1 ?c2 ?c3 ?c4 ?c5 ?_)
    case c1 =>
      intro j u hj
      have hjl : j < F2.length * 3 := by have := (List.getElem?_eq_some_iff.1 hj).1; rw [fiL_len] at this; exact this
      first
        | rw [Addr.add_lit]
        | skip
      rw [← HT5.out, List.getElem?_take, if_pos hjl] at hj
      have hc := Blk.cell (w := w5) (k := g5) (o := j) (cs := cur5) (t := 62) (v := u) HB5.out (by simpa using hj)
      simpa using hc
    case c2 => exact fiL_one F2
    case c3 => unfold maxLen; omega
    case c4 => omega
    case c5 => omega
    intro v' w6 ho' hg' _
    have HO6 : Hid _ := ho'
    clear ho'
    go_wp2
    go_ret
    refine ⟨v', rfl, ?_, belG (b1.trans (B5.mono hz1')) hg' (fun q hq => by have := (World.ownsRow.lt HO5.out q hq).1; omega) (by omega)⟩
    rw [HF.out, List.length_append, fiL_app]
    exact own_base HO6.out (by omega)
end Go.Proofs.Ytglbfeccdibmiaa
