/- What each order gets of one side; of both. -/
import Derived.Test.YtglbfeccdibmiaaCaE
namespace Go.Proofs.Ytglbfeccdibmiaa
open Go.Shelf Go.RowKit Go.Lib Go.Sort
set_option linter.unusedSimpArgs false
set_option linter.unusedVariables false

theorem infoF : (Try.prog.info? 62).map (fun i => (i.zero, i.size, i.bytes)) = some (some (.agg #[.int .i64 0, .int .i64 0, .int .i64 0]), 3, 24) := by kernel_rfl
theorem own_base {w : World} {b b' : Nat} {e : TypeId} {sz : Nat} {v : Value} {n : Nat} {xs : List Value} (ho : w.ownsRow b e sz v n xs) (h : b' ≤ b) : w.ownsRow b' e sz v n xs := by
  refine ⟨ho.1, ?_⟩
  rcases ho.2 with h1 | ⟨g, cap, cur, h1, h2, h3⟩
  · exact Or.inl h1
  · exact Or.inr ⟨g, cap, cur, h1, by omega, h3⟩
theorem fll_step {s : List Od} {k : Nat} {o : Od} (h : s[k]? = some o) (m : Int) : fll (s.drop k) m = if min o.am m ≤ 0 then [] else (o.id, o.own, min o.am m) :: fll (s.drop (k + 1)) (m - min o.am m) := by
  have hk := List.getElem?_eq_some_iff.1 h
  rw [List.drop_eq_getElem_cons hk.1, hk.2, fll]
theorem fll_len : ∀ (s : List Od) (m : Int), (fll s m).length ≤ s.length
  | [], _ => by simp [fll]
  | o :: s, m => by
    rw [fll]
    split
    · simp
    · simp only [List.length_cons]; have := fll_len s (m - min o.am m); omega

set_option maxHeartbeats 8000000 in
set_option maxRecDepth 100000 in
theorem filled_calls (f : Od → Bool) (bp : Od → Od → Int) (hO : SWO (ltOf (fun a b : Od => cOr (bp a b) (cmI a.pl b.pl)))) (g : Nat) (cb : Array Value) (fk : Nat) (v : Value) (l : List Od) (n : Int) (w : World)
    (eg : ∀ args w, (callFunc g args).run Try.prog w = .ok (.enter g args) w) (ek : ∀ args w, (callFunc fk args).run Try.prog w = .ok (.enter fk args) w) (hl : Ods w v l) (hj : Jd l) (hn : -9223372036854775808 ≤ n ∧ n ≤ 9223372036854775807)
    (hf : ∀ o wx, Below w.heap.size w wx → Calls Try.prog g (#[.agg (oC o).toArray] ++ cb) wx fun e w' => e = .returned (.bool (f o)) ∧ Below wx.heap.size wx w')
    (hk : ∀ a b w, Calls Try.prog fk #[.agg (oC a).toArray, .agg (oC b).toArray] w fun e w' => e = .returned (.int .i64 (bp a b)) ∧ Gr w w') :
    Calls Try.prog 52 #[v, .func (.func g) #[] cb, .func (.func fk) #[] #[], .int .i64 n] w fun e w' => ∃ v', e = .returned v' ∧ w'.ownsRow w.heap.size 62 3 v' (fll (stab (ltOf (fun a b : Od => cOr (bp a b) (cmI a.pl b.pl))) (l.filter f)) n).length (fiL (fll (stab (ltOf (fun a b : Od => cOr (bp a b) (cmI a.pl b.pl))) (l.filter f)) n)) ∧ Below w.heap.size w w' := by
  obtain ⟨i0, hi, hz0, hz1, hz2⟩ := info_parts infoF
  have e40 : ∀ args w, (callFunc 66 args).run Try.prog w = .ok (.enter 66 args) w := by intro args w; kernel_rfl
  obtain ⟨W0, hW0, XB, B0, Z0⟩ : ∃ W0, (w.alloc (.cells #[.func (.func fk) #[] #[]] 95)) = W0 ∧ Blk W0 w.heap.size #[.func (.func fk) #[] #[]] 95 ∧ Below w.heap.size w W0 ∧ W0.heap.size = w.heap.size + 1 :=
    ⟨_, rfl, blk_new _ _ _ _ rfl, by go_grown, by simp⟩
  have HP : Hid _ := pick_calls f g cb v l W0 eg (hl.below B0) (by have := hj.1; omega) (fun o wx hb => hf o wx (B0.trans (hb.mono (by omega))))
  have HJ : Hid (Jd (l.filter f)) := hj.filter f
  obtain ⟨pp, cap, rfl, hc⟩ := hl
  generalize l.filter f = J at *
  have hcb : W0.cell? ⟨w.heap.size, 0, none⟩ = some (.func (.func fk) #[] #[]) := XB.cell rfl
  have HK : Hid (∀ x y wx, wx.cell? ⟨w.heap.size, 0, none⟩ = some (.func (.func fk) #[] #[]) → Calls Try.prog 66 (#[.agg (oC x).toArray, .agg (oC y).toArray] ++ #[.pointer (some ⟨w.heap.size, 0, none⟩)]) wx fun e w' => e = .returned (.int .i64 (cOr (bp x y) (cmI x.pl y.pl))) ∧ Gr wx w') :=
    fun x y wx hx => fill1_calls bp fk w.heap.size x y wx ek hx (fun w => hk x y w)
  have E40 : Hid _ := e40
  have HO : Hid _ := hO
  have HB : Hid _ := hcb
  generalize hcf : (fun a b : Od => cOr (bp a b) (cmI a.pl b.pl)) = cf at *
  have HK2 : Hid (∀ x y wx, wx.cell? ⟨w.heap.size, 0, none⟩ = some (.func (.func fk) #[] #[]) → Calls Try.prog 66 (#[.agg (oC x).toArray, .agg (oC y).toArray] ++ #[.pointer (some ⟨w.heap.size, 0, none⟩)]) wx fun e w' => e = .returned (.int .i64 (cf x y)) ∧ Gr wx w') := by
    intro x y wx hx; rw [← hcf]; exact HK.out x y wx hx
  clear hf hc hj hO hk e40 hcb hcf HK
  go_enter Try.func52, Try.ntmps52
  go_wp2_with fail
  refine Calls.mono HP.out ?_
  rintro e w2 ⟨v2, rfl, own2, b2⟩
  have hlt2 : w.heap.size < w2.heap.size := by have := b2.size; omega
  have HS : Hid _ := sortStable_calls cf HO.out 66 #[.pointer (some ⟨w.heap.size, 0, none⟩)] W0.heap.size v2 J w2 E40.out (fun x y wx h1 h2 => by
    refine HK2.out x y wx ?_
    have hc2 := (b2.cell (p := ⟨w.heap.size, 0, none⟩) XB.lt).trans HB.out
    cases hv : v2.ownBlock with
    | none => exact ((h2 hv).cell (p := ⟨w.heap.size, 0, none⟩) hlt2).trans hc2
    | some r =>
      have hr := (own2.lt r hv).1
      exact ((h1 r hv).cell (p := ⟨w.heap.size, 0, none⟩) hlt2 (by show w.heap.size ≠ r; omega)).trans hc2) own2 (by have := HJ.out.1; omega)
  have HL2 : Hid (∀ r, v2.ownBlock = some r → w.heap.size ≤ r) := fun r hr => by have := (own2.lt r hr).1; omega
  obtain ⟨oc, ocap, rfl⟩ := own_form own2
  clear own2 HP XB hW0 HK2
  go_wp2_with fail
  refine Calls.mono HS.out ?_
  rintro e w3 ⟨rfl, own3, hno, hof⟩
  have b3 : Below w.heap.size w w3 := by
    have hb2 : Below w.heap.size w w2 := B0.trans (b2.mono (by omega))
    cases hv : (Value.slice oc J.length ocap).ownBlock with
    | none => rw [hno hv]; exact hb2
    | some r => exact (hof r hv).below (HL2.out r hv) hb2 (by omega)
  have HSJ : Hid (Jd (stab (ltOf cf) J)) := ⟨by rw [stab_len]; exact HJ.out.1, fun o ho => HJ.out.2 o ((Stb.mem HO.out (stab_stb HO.out J)).1 ho)⟩
  have HD : Hid (Ods w3 (.slice oc J.length ocap) (stab (ltOf cf) J)) := by
    have := own3
    rw [← stab_len (lt := ltOf cf) J] at this ⊢
    exact ods_own this
  have hSl : (stab (ltOf cf) J).length = J.length := stab_len J
  obtain ⟨s, hs⟩ : ∃ s, stab (ltOf cf) J = s := ⟨_, rfl⟩
  have HST : Hid _ := hs
  rw [hs] at HSJ HD hSl
  clear hs
  have HSL : Hid _ := hSl
  have hJ64 := HJ.out.1
  clear own3 hno hof hSl HS
  go_wp2
  go_loopw [3, 9, 21] (fun lf ov i wr => ∃ (k : Nat) (m : Int) (acc : List Fi), k ≤ J.length ∧ i = .int .i64 k ∧ lf = .int .i64 m ∧ -9223372036854775808 ≤ m ∧ m ≤ 9223372036854775807 ∧ acc.length ≤ k ∧ Hid (fll s n = acc ++ fll (s.drop k) m) ∧ Hid (wr.ownsRow w3.heap.size 62 3 ov acc.length (fiL acc)) ∧ Below w3.heap.size w3 wr) (fun _ _ i _ => J.length - (intOf i).toNat)
  case atStart => exact ⟨0, n, [], Nat.zero_le _, rfl, rfl, hn.1, hn.2, Nat.le_refl _, rfl, World.ownsRow_nil _ _ _ _, Below.refl _ _⟩
  case round =>
    obtain ⟨k, m, acc, hk, rfl, rfl, hm1, hm2, hac, HR, HA, hb⟩ := hrel
    have hz := hb.size
    have hz3 := b3.size
    obtain ⟨ac, acap, rfl⟩ := own_form HA.out
    by_cases hlt : k < J.length
    · have hd : decide ((k : Int) < J.length) = true := by simp only [decide_eq_true_eq]; omega
      obtain ⟨o, ho⟩ : ∃ o, s[k]? = some o := by have := HSL.out; exact ⟨s[k], by simp [this, hlt]⟩
      obtain ⟨p', cap', hv, hcs⟩ := HD.out
      injection hv with hv1 hv2 hv3
      clear hv2
      subst hv1 hv3
      rcases hcs with hnil | ⟨gb, off, hp, hcs⟩
      · exfalso; rw [hnil] at ho; simp at ho
      subst hp
      obtain ⟨c0, c1, c2, c3, c4, c5⟩ := Ods.six hcs ho
      have hbl := World.block_lt_of_cell? w3 _ c0
      have d0 := (hb.cell (p := ⟨gb, off + k * 6, none⟩) hbl).trans c0
      have d1 := (hb.cell (p := ⟨gb, off + k * 6 + 1, none⟩) hbl).trans c1
      have d2 := (hb.cell (p := ⟨gb, off + k * 6 + 2, none⟩) hbl).trans c2
      have d3 := (hb.cell (p := ⟨gb, off + k * 6 + 3, none⟩) hbl).trans c3
      have d4 := (hb.cell (p := ⟨gb, off + k * 6 + 4, none⟩) hbl).trans c4
      have d5 := (hb.cell (p := ⟨gb, off + k * 6 + 5, none⟩) hbl).trans c5
      have HT : Hid _ := fll_step ho m
      have a2 := HSJ.out.am o (List.mem_of_getElem? ho)
      obtain ⟨W1, hW1, XM, B1, Z1⟩ : ∃ W1, (wr.alloc (.cells #[.int .i64 o.id, .int .i64 o.own, .int .i64 o.pr, .int .i64 o.am, .int .i64 o.pl, .bool o.by] 31)) = W1 ∧ Blk W1 wr.heap.size (oC o).toArray 31 ∧ Below wr.heap.size wr W1 ∧ W1.heap.size = wr.heap.size + 1 :=
        ⟨_, rfl, blk_new _ _ _ _ rfl, by go_grown, by simp⟩
      have x0 : W1.cell? ⟨wr.heap.size, 0, none⟩ = some (.int .i64 o.id) := XM.cell rfl
      have x1 : W1.cell? ⟨wr.heap.size, 1, none⟩ = some (.int .i64 o.own) := XM.cell rfl
      have x3 : W1.cell? ⟨wr.heap.size, 3, none⟩ = some (.int .i64 o.am) := XM.cell rfl
      have HA2 : Hid _ := ownB HA.out B1
      have B2 : Below w3.heap.size w3 W1 := hb.trans (B1.mono hz)
      have Z2 : wr.heap.size < W1.heap.size := by omega
      clear Z1
      clear c0 c1 c2 c3 c4 c5 hcs ho
      generalize o.id = y0 at *
      generalize o.own = y1 at *
      generalize o.am = y3 at *
      obtain ⟨mn, hmn⟩ : ∃ mn, min y3 m = mn := ⟨_, rfl⟩
      rw [hmn] at HT
      have hm3 : mn ≤ m := by omega
      have hm4 : mn ≤ 1048576 := by omega
      by_cases hle : mn ≤ 0
      · rw [if_pos hle] at HT
        have hle2 : decide (mn ≤ 0) = true := decide_eq_true hle
        go_wp2
        go_ret
        have hr := HR.out
        rw [HT.out, List.append_nil] at hr
        rw [HST.out, hr]
        exact ⟨.slice ac acc.length acap, rfl, own_base HA2.out (by omega), b3.trans (B2.mono (by omega))⟩
      · rw [if_neg hle] at HT
        have hle2 : decide (mn ≤ 0) = false := decide_eq_false hle
        go_wp2_with (at_builtin; refine wpList_append_own _ rfl (.tmp 31) (.tmp 38) 46 rfl w3.heap.size 62 i0 (.agg #[.int .i64 0, .int .i64 0, .int .i64 0]) 3 24 Try.underlying46 hi hz0 hz1 hz2 rfl (by decide) _ _ _ rfl (World.ownsRow.alloc HA2.out _) ⟨W1.heap.size, 0, none⟩ 1 1 (fC (y0, y1, mn)) rfl rfl ?c1 ?c2 ?c3 ?c4 ?c5 ?_)
        case c1 =>
          intro j u hj
          simpa [fC] using hj
        case c2 => intro u hu; simp [fC] at hu; rcases hu with rfl | rfl | rfl <;> rfl
        case c3 => unfold maxLen; omega
        case c4 => omega
        case c5 => omega
        intro v' w4 ho' hg' _
        have HO' : Hid _ := ho'
        clear ho'
        go_wp2
        refine ⟨⟨k + 1, m - mn, acc ++ [(y0, y1, mn)], by omega, by norm_cast, rfl, by omega, by omega, by simp; omega, ?_, ?_, ?_⟩, by simp [intOf]; omega⟩
        · show _ = _
          rw [HR.out, HT.out]; simp
        · show World.ownsRow _ _ _ _ _ _ _
          rw [fiL_app, List.length_append]
          exact HO'.out
        · exact belG (B2.alloc (by omega) _) hg' (fun q hq => (World.ownsRow.lt HA2.out q hq).1) (by simp; omega)
    · have hd : decide ((k : Int) < J.length) = false := by simp only [decide_eq_false_iff_not]; omega
      go_wp2
      go_ret
      have hkl : s.drop k = [] := List.drop_eq_nil_of_le (by have := HSL.out; omega)
      have hr := HR.out
      rw [hkl] at hr
      simp only [fll, List.append_nil] at hr
      rw [HST.out, hr]
      exact ⟨.slice ac acc.length acap, rfl, own_base HA.out (by omega), b3.trans (hb.mono (by omega))⟩
end Go.Proofs.Ytglbfeccdibmiaa
