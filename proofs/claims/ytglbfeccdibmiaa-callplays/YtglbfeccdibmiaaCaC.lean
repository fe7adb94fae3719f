/- Orders picked, summed, crossed. -/
import Derived.Test.YtglbfeccdibmiaaCaM
namespace Go.Proofs.Ytglbfeccdibmiaa
open Go.Shelf Go.RowKit Go.Lib Go.Sort
set_option linter.unusedSimpArgs false
set_option linter.unusedVariables false

theorem ownB {w w' : World} {base : Nat} {e : TypeId} {sz : Nat} {v : Value} {n : Nat} {xs : List Value} (ho : w.ownsRow base e sz v n xs) (hb : Below w.heap.size w w') : w'.ownsRow base e sz v n xs :=
  ho.kept (row := none) ⟨hb.os, hb.tape, hb.output, hb.size, fun k hk _ => hb.block k hk⟩ (by cases v.ownBlock <;> simp)
theorem belG {B : Nat} {z w w' : World} {row : Option Nat} (h : Below B z w) (hg : w.grownBy w' row) (hr : ∀ k, row = some k → B ≤ k) (hbs : B ≤ w.heap.size) : Below B z w' :=
  h.trans ⟨hg.os, hg.tape, hg.output, hg.size, fun k hk => hg.block k (by omega) (fun e => by have := hr k e.symm; omega)⟩
theorem own_form {w : World} {base : Nat} {e : TypeId} {sz : Nat} {v : Value} {n : Nat} {xs : List Value} (ho : w.ownsRow base e sz v n xs) : ∃ c cap, v = .slice c n cap := by
  rcases ho.2 with ⟨rfl, h⟩ | ⟨g, cap, cur, rfl, _⟩
  · rw [h]; exact ⟨none, 0, rfl⟩
  · exact ⟨_, _, rfl⟩
theorem infoO : (Try.prog.info? 31).map (fun i => (i.zero, i.size, i.bytes)) = some (some (.agg #[.int .i64 0, .int .i64 0, .int .i64 0, .int .i64 0, .int .i64 0, .bool false]), 6, 48) := by kernel_rfl
theorem infoO6 (o : Od) : (Try.prog.info? 31).map (·.size) = some (oC o).toArray.size := by
  have h : (Try.prog.info? 31).map (·.size) = some 6 := by kernel_rfl
  rw [h]; rfl

set_option maxRecDepth 100000 in
theorem buysAt_calls (p : Int) (w : World) : Calls Try.prog 53 #[.int .i64 p] w fun e w' => e = .returned (.func (.func 68) #[] #[.pointer (some ⟨w.heap.size, 0, none⟩)]) ∧ w'.cell? ⟨w.heap.size, 0, none⟩ = some (.int .i64 p) ∧ Gr w w' := by
  go_enter Try.func53, Try.ntmps53
  go_wp2
  go_ret
  exact ⟨rfl, by simp, (Gr.refl _).alloc _⟩
set_option maxRecDepth 100000 in
theorem sellsAt_calls (p : Int) (w : World) : Calls Try.prog 56 #[.int .i64 p] w fun e w' => e = .returned (.func (.func 70) #[] #[.pointer (some ⟨w.heap.size, 0, none⟩)]) ∧ w'.cell? ⟨w.heap.size, 0, none⟩ = some (.int .i64 p) ∧ Gr w w' := by
  go_enter Try.func56, Try.ntmps56
  go_wp2
  go_ret
  exact ⟨rfl, by simp, (Gr.refl _).alloc _⟩
set_option maxRecDepth 100000 in
theorem buysAt1_calls (o : Od) (p : Int) (bx : Nat) (w : World) (c : w.cell? ⟨bx, 0, none⟩ = some (.int .i64 p)) : Calls Try.prog 68 #[.agg (oC o).toArray, .pointer (some ⟨bx, 0, none⟩)] w fun e w' => e = .returned (.bool (bAt p o)) ∧ Gr w w' := by
  have hb := World.block_lt_of_cell? w _ c
  have hlt : bx < w.heap.size := hb
  have c2 := fun ob => (((Below.refl w.heap.size w).alloc (Nat.le_refl _) ob).cell (p := ⟨bx, 0, none⟩) hb).trans c
  unfold oC bAt
  generalize o.id = x1 at *
  generalize o.own = x2 at *
  generalize o.pr = x3 at *
  generalize o.am = x4 at *
  generalize o.pl = x5 at *
  generalize o.by = x6 at *
  cases x6
  · go_enter Try.func68, Try.ntmps68
    go_wp2
    go_ret
    exact ⟨by simp, (Gr.refl _).alloc _⟩
  · go_enter Try.func68, Try.ntmps68
    go_wp2
    go_ret
    exact ⟨by simp, (Gr.refl _).alloc _⟩
set_option maxRecDepth 100000 in
theorem sellsAt1_calls (o : Od) (p : Int) (bx : Nat) (w : World) (c : w.cell? ⟨bx, 0, none⟩ = some (.int .i64 p)) : Calls Try.prog 70 #[.agg (oC o).toArray, .pointer (some ⟨bx, 0, none⟩)] w fun e w' => e = .returned (.bool (sAt p o)) ∧ Gr w w' := by
  have hb := World.block_lt_of_cell? w _ c
  have hlt : bx < w.heap.size := hb
  have c2 := fun ob => (((Below.refl w.heap.size w).alloc (Nat.le_refl _) ob).cell (p := ⟨bx, 0, none⟩) hb).trans c
  unfold oC sAt
  generalize o.id = x1 at *
  generalize o.own = x2 at *
  generalize o.pr = x3 at *
  generalize o.am = x4 at *
  generalize o.pl = x5 at *
  generalize o.by = x6 at *
  cases x6
  · go_enter Try.func70, Try.ntmps70
    go_wp2
    go_ret
    exact ⟨by simp, (Gr.refl _).alloc _⟩
  · go_enter Try.func70, Try.ntmps70
    go_wp2
    go_ret
    exact ⟨by simp, (Gr.refl _).alloc _⟩

theorem take_odd {l : List Od} {k : Nat} {o : Od} (h : l[k]? = some o) : l.take (k + 1) = l.take k ++ [o] := by
  have hk := (List.getElem?_eq_some_iff.1 h)
  rw [List.take_succ_eq_append_getElem hk.1, hk.2]

set_option maxHeartbeats 4000000 in
set_option maxRecDepth 100000 in
/-- The orders that are chosen, in memory of their own. -/
theorem pick_calls (f : Od → Bool) (g : Nat) (cb : Array Value) (v : Value) (l : List Od) (w : World) (eg : ∀ args w, (callFunc g args).run Try.prog w = .ok (.enter g args) w) (hl : Ods w v l) (hn : l.length ≤ 2932031007402)
    (hf : ∀ o wx, Below w.heap.size w wx → Calls Try.prog g (#[.agg (oC o).toArray] ++ cb) wx fun e w' => e = .returned (.bool (f o)) ∧ Below wx.heap.size wx w') :
    Calls Try.prog 63 #[v, .func (.func g) #[] cb] w fun e w' => ∃ v', e = .returned v' ∧ w'.ownsRow w.heap.size 31 6 v' (l.filter f).length (odL (l.filter f)) ∧ Below w.heap.size w w' := by
  obtain ⟨i0, hi, hz0, hz1, hz2⟩ := info_parts infoO
  obtain ⟨p, cap, rfl, hc⟩ := hl
  have hun := Try.underlying31
  have HC : Hid _ := hc
  have HF : Hid _ := hf
  clear hc hf
  go_enter Try.func63, Try.ntmps63
  go_wp2
  go_loopw [5, 10] (fun ov i wr => ∃ k : Nat, k ≤ l.length ∧ i = .int .i64 k ∧ Hid (wr.ownsRow w.heap.size 31 6 ov ((l.take k).filter f).length (odL ((l.take k).filter f))) ∧ Below w.heap.size w wr) (fun _ i _ => l.length - (intOf i).toNat)
  case atStart => exact ⟨0, Nat.zero_le _, rfl, World.ownsRow_nil _ _ _ _, Below.refl _ _⟩
  case round =>
    obtain ⟨k, hk, rfl, HO, hb⟩ := hrel
    have hz := hb.size
    obtain ⟨oc, ocap, rfl⟩ := own_form HO.out
    by_cases hlt : k < l.length
    · have hd : decide ((k : Int) < l.length) = true := by simp only [decide_eq_true_eq]; omega
      obtain ⟨o, ho⟩ : ∃ o, l[k]? = some o := ⟨l[k], by simp [hlt]⟩
      rcases HC.out with hnil | ⟨gb, off, hp, hcs⟩
      · exfalso; rw [hnil] at hlt; simp at hlt
      subst hp
      obtain ⟨c0, c1, c2, c3, c4, c5⟩ := Ods.six hcs ho
      have hbl := World.block_lt_of_cell? w _ c0
      have d0 := (hb.cell (p := ⟨gb, off + k * 6, none⟩) hbl).trans c0
      have d1 := (hb.cell (p := ⟨gb, off + k * 6 + 1, none⟩) hbl).trans c1
      have d2 := (hb.cell (p := ⟨gb, off + k * 6 + 2, none⟩) hbl).trans c2
      have d3 := (hb.cell (p := ⟨gb, off + k * 6 + 3, none⟩) hbl).trans c3
      have d4 := (hb.cell (p := ⟨gb, off + k * 6 + 4, none⟩) hbl).trans c4
      have d5 := (hb.cell (p := ⟨gb, off + k * 6 + 5, none⟩) hbl).trans c5
      have HT : Hid _ := take_odd ho
      have hfl : ((l.take k).filter f).length ≤ k := Nat.le_trans (List.length_filter_le _ _) (by simp; omega)
      have h6 := infoO6 o
      obtain ⟨W1, hW1, XM, B1, Z1⟩ : ∃ W1, (wr.alloc (.cells #[.int .i64 o.id, .int .i64 o.own, .int .i64 o.pr, .int .i64 o.am, .int .i64 o.pl, .bool o.by] 31)) = W1 ∧ Blk W1 wr.heap.size (oC o).toArray 31 ∧ Below wr.heap.size wr W1 ∧ W1.heap.size = wr.heap.size + 1 :=
        ⟨_, rfl, blk_new _ _ _ _ rfl, by go_grown, by simp⟩
      have HF1 : Hid _ := HF.out o W1 (hb.trans (B1.mono hz))
      have HOC : Hid (oC o = [.int .i64 o.id, .int .i64 o.own, .int .i64 o.pr, .int .i64 o.am, .int .i64 o.pl, .bool o.by]) := rfl
      clear c0 c1 c2 c3 c4 c5 hcs ho HF
      cases hfo : f o
      · rw [hfo] at HF1
        go_wp2_with ((with_reducible refine rd_row (ty := 31) XM hun rfl h6 ?_ ?_); rfl)
        go_at_fn g
        refine Calls.mono HF1.out ?_
        rintro e w2 ⟨rfl, b2⟩
        go_wp2
        refine ⟨⟨k + 1, by omega, by norm_cast, ?_, hb.trans ((B1.trans (b2.mono (by omega))).mono hz)⟩, by simp [intOf]; omega⟩
        show World.ownsRow _ _ _ _ _ _ _
        rw [HT.out, List.filter_append]
        simp only [List.filter_cons, hfo, List.filter_nil, Bool.false_eq_true, if_false, List.append_nil]
        exact ownB (ownB HO.out B1) b2
      · rw [hfo] at HF1
        go_wp2_with ((with_reducible refine rd_row (ty := 31) XM hun rfl h6 ?_ ?_); rfl)
        go_at_fn g
        refine Calls.mono HF1.out ?_
        rintro e w2 ⟨rfl, b2⟩
        have X2 : Blk w2 wr.heap.size #[.int .i64 o.id, .int .i64 o.own, .int .i64 o.pr, .int .i64 o.am, .int .i64 o.pl, .bool o.by] 31 := XM.below b2
        have h7 : (Try.prog.info? 31).map (·.size) = some (#[Value.int .i64 o.id, .int .i64 o.own, .int .i64 o.pr, .int .i64 o.am, .int .i64 o.pl, .bool o.by]).size := h6
        have z2 := b2.size
        have HO2 : Hid _ := ownB (ownB HO.out B1) b2
        have B2 := hb.trans ((B1.trans (b2.mono (by omega))).mono hz)
        clear XM hW1 d0 d1 d2 d3 d4 d5
        go_wp2_with (first | ((with_reducible refine rd_row (ty := 31) X2 hun rfl h7 ?_ ?_); rfl) | (at_builtin; refine wpList_append_own _ rfl (.tmp 17) (.tmp 19) 25 rfl w.heap.size 31 i0 (.agg #[.int .i64 0, .int .i64 0, .int .i64 0, .int .i64 0, .int .i64 0, .bool false]) 6 48 Try.underlying25 hi hz0 hz1 hz2 rfl (by decide) _ _ _ rfl (World.ownsRow.alloc HO2.out _) ⟨w2.heap.size, 0, none⟩ 1 1 (oC o) rfl rfl ?c1 ?c2 ?c3 ?c4 ?c5 ?_))
        case c1 =>
          intro j u hj
          rw [Addr.add_lit]
          refine (blk_new w2 w2.heap.size _ _ rfl).cell ?_
          simpa [oC] using hj
        case c2 => exact oC_one o
        case c3 => unfold maxLen; omega
        case c4 => omega
        case c5 => simp; omega
        intro v' w4 ho' hg' _
        go_wp2
        refine ⟨⟨k + 1, by omega, by norm_cast, ?_, ?_⟩, by simp [intOf]; omega⟩
        · show World.ownsRow _ _ _ _ _ _ _
          rw [HT.out, List.filter_append]
          simp only [List.filter_cons, hfo, List.filter_nil, if_true, odL_app, List.length_append, List.length_cons, List.length_nil, Nat.zero_add]
          rw [show odL [o] = oC o by simp [odL]]
          exact ho'
        · exact belG (B2.alloc (by omega) _) hg' (fun q hq => (World.ownsRow.lt HO2.out q hq).1) (by simp; omega)
    · have hd : decide ((k : Int) < l.length) = false := by simp only [decide_eq_false_iff_not]; omega
      go_wp2
      go_ret
      have htk : l.take k = l := List.take_of_length_le (by omega)
      refine ⟨.slice oc ((l.take k).filter f).length ocap, rfl, ?_, hb⟩
      have := HO.out
      rw [htk] at this ⊢
      exact this
end Go.Proofs.Ytglbfeccdibmiaa
