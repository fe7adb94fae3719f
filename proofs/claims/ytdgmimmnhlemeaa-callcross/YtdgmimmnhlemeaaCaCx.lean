/- Cross and Fills are the document's: the walk. -/
import Derived.Test.YtdgmimmnhlemeaaCaRf
import Derived.Test.YtdgmimmnhlemeaaCaSm
import Derived.Test.YtdgmimmnhlemeaaCaS
namespace Go.Proofs.Ytdgmimmnhlemeaa
open Go.Shelf Go.RowKit Go.Lib Go.Sort
set_option linter.unusedSimpArgs false
set_option linter.unusedVariables false

theorem copyO (w : World) {ops : Array Oper} {rest : List Oper} {o : Oper} {a : Act} {Q : Exit → Act → World → Prop} (hgd : o.guard = none) (s x : Operand) (hty : o.type = 22)
    (ho : o.op = .call { callee := .builtin .append, args := #[s, x], argTypes := #[22, 22] }) (u : Value) (l : List Od) (hs : a.eval s = .slice none 0 0) (hx : a.eval x = u) (hL : Ods w u l) (hn : l.length * 48 ≤ 140737488351232)
    (K : ∀ v' w', w'.ownsRow w.heap.size 33 6 v' l.length (odL l) → Below w.heap.size w w' → wpList Try.prog ops Q rest (a.put o.dst v') w') : wpList Try.prog ops Q (o :: rest) a w := by
  obtain ⟨pp, cap, rfl, hc⟩ := hL
  rcases hc with rfl | ⟨g, off, rfl, hcs⟩
  · exact wpList_append_givenO w hgd s x _ ho _ _ hs hx (by rw [hty]; exact append_emptyO pp cap w) (K _ _ (World.ownsRow_nil _ _ _ _) (Below.refl _ _))
  · obtain ⟨i0, hi, hi0, hi1, hi2⟩ := info_parts infoOr
    refine wpList_append_own w hgd s x _ ho w.heap.size 33 i0 (.agg #[.int .i64 0, .int .i64 0, .int .i64 0, .int .i64 0, .int .i64 0, .bool false]) 6 48 Try.underlying22 hi hi0 hi1 hi2 rfl (by decide) (.slice none 0 0) 0 [] hs (World.ownsRow_nil _ _ _ _) ⟨g, off, none⟩ l.length cap (odL l) hx (odL_len l) ?_ (odL_one l) (by unfold maxLen; omega) (by omega) (Nat.le_refl _) ?_
    · intro j u hj
      rw [Addr.add_lit]
      exact odL_take_cells (fun k x hx i u hu => hcs k x i u hx hu) j u hj
    · intro v' w' h1 h2 _
      rw [Nat.zero_add, List.nil_append] at h1
      exact K v' w' h1 (belG (Below.refl _ _) h2 (fun k hk => by cases hk) (Nat.le_refl _))
set_option maxHeartbeats 8000000 in
set_option maxRecDepth 100000 in
theorem crossed_calls (v : Value) (l : List Od) (p n : Int) (w : World) (hl : Ods w v l) (hn : l.length * 48 ≤ 140737488351232) (hr : -9223372036854775808 ≤ n ∧ n ≤ 9223372036854775807) :
    Calls Try.prog 3 #[v, .int .i64 p, .int .i64 n] w fun e w' => e = .returned (.bool true) ∧ Below w.heap.size w w' := by
  have HA : Hid _ := awake_calls
  have HL : Hid _ := hl
  obtain ⟨pp, cap, rfl, _⟩ := id hl
  clear hl
  go_enter Try.func3, Try.ntmps3
  go_wp2_with (at_builtin; refine copyO _ rfl _ _ rfl rfl _ l rfl rfl HL.out hn ?_)
  intro v1 w1 own1 b1
  obtain ⟨mc, mcap, rfl⟩ := own_form own1
  have HM : Hid (Ods w1 (.slice mc l.length mcap) l) := ods_own own1
  have HL1 : Hid _ := Ods.below HL.out b1
  obtain ⟨cp, hcp⟩ : ∃ cp, (crs l).1 = cp := ⟨_, rfl⟩
  obtain ⟨cn, hcn⟩ : ∃ cn, (crs l).2 = cn := ⟨_, rfl⟩
  have hc1 := cross_calls (.slice mc l.length mcap) l w1 HM.out (by omega)
  rw [hcp, hcn] at hc1
  have HC1 : Hid _ := hc1
  have HR : Hid (∀ wx, Below w1.heap.size w1 wx → Calls Try.prog 5 #[.slice pp l.length cap] wx fun e w' => e = .returned (.tuple #[.int .i64 cp, .int .i64 cn]) ∧ Below wx.heap.size wx w') := fun wx hb => by
    have q := refCross_calls (.slice pp l.length cap) l wx (Ods.below HL1.out hb)
    rw [hcp, hcn] at q
    exact q
  have hz1 := b1.size
  clear own1 hc1 hcp hcn
  go_wp2_with fail
  refine Calls.mono HC1.out ?_
  rintro e w2 ⟨rfl, b2⟩
  go_wp2_with fail
  refine Calls.mono (HR.out w2 b2) ?_
  rintro e w3 ⟨rfl, b3⟩
  have b13 : Below w1.heap.size w1 w3 := b2.trans (b3.mono b2.size)
  have HF4 : Hid _ := fills_calls (.slice mc l.length mcap) l p n w3 (Ods.below HM.out b13) (by omega) hr
  go_wp2_with fail
  refine Calls.mono HF4.out ?_
  rintro e w4 ⟨v4, rfl, own4, b4⟩
  have b14 : Below w1.heap.size w1 w4 := b13.trans (b4.mono b13.size)
  have HF5 : Hid _ := refFills_calls (.slice pp l.length cap) l p n w4 (Ods.below HL1.out b14) hr
  obtain ⟨fc, fcap, rfl⟩ := own_form own4
  have HO4 : Hid _ := own4
  have hfl : (fills l p n).length ≤ 100000 := by
    have h1 := fll_len (stab (fun a b => decide (cfB a b < 0)) ((jdg l).filter (bAt p))) n
    have h2 := fll_len (stab (fun a b => decide (cfS a b < 0)) ((jdg l).filter (sAt p))) n
    rw [stab_len] at h1 h2
    have a3 := ((jd_jdg l).filter (bAt p)).1
    have a4 := ((jd_jdg l).filter (sAt p)).1
    unfold fills
    rw [List.length_append]
    omega
  generalize fills l p n = fs at *
  clear own4
  go_wp2_with fail
  refine Calls.mono HF5.out ?_
  rintro e w5 ⟨v5, rfl, own5, b5⟩
  have b15 : Below w1.heap.size w1 w5 := b14.trans (b5.mono b14.size)
  have HSF : Hid _ := sameFills_same _ v5 fs _ _ w5 (ownB HO4.out b5) own5 hfl
  obtain ⟨gc, gcap, rfl⟩ := own_form own5
  clear own5
  go_wp2_with fail
  refine Calls.mono HSF.out ?_
  rintro e w6 ⟨rfl, b6⟩
  have b16 : Below w1.heap.size w1 w6 := b15.trans (b6.mono b15.size)
  have HSM : Hid _ := same_same (.slice mc l.length mcap) (.slice pp l.length cap) l w6 (Ods.below HM.out b16) (Ods.below HL1.out b16) (by omega)
  go_wp2_with fail
  refine Calls.mono HSM.out ?_
  rintro e w7 ⟨rfl, b7⟩
  have b17 : Below w1.heap.size w1 w7 := b16.trans (b7.mono b16.size)
  go_wp2_with fail
  refine (HA.out _).mono ?_
  rintro e w8 ⟨rfl, b8⟩
  have B8 := b1.trans ((b17.trans (b8.mono b17.size)).mono hz1)
  go_wp2
  go_ret
  exact ⟨rfl, B8⟩
end Go.Proofs.Ytdgmimmnhlemeaa
