/- The price does not hang on the order in which orders stand: the walk. -/
import Derived.Test.YtjglmlojdhjgfaaCaS
import Derived.Test.YtjglmlojdhjgfaaCaBe
import Derived.Test.YtjglmlojdhjgfaaCaX
namespace Go.Proofs.Ytjglmlojdhjgfaa
open Go.Shelf Go.RowKit Go.Lib Go.Sort
set_option linter.unusedSimpArgs false
set_option linter.unusedVariables false

theorem drop_rev {l : List Od} {k : Nat} {o : Od} (h : l[k]? = some o) : (l.drop k).reverse = (l.drop (k + 1)).reverse ++ [o] := by
  have hk := List.getElem?_eq_some_iff.1 h
  rw [List.drop_eq_getElem_cons hk.1, hk.2, List.reverse_cons]

set_option maxHeartbeats 4000000 in
set_option maxRecDepth 100000 in
theorem turned_calls (v : Value) (l : List Od) (w : World) (hl : Ods w v l) (hn : l.length * 48 ≤ 140737488351232) :
    Calls Try.prog 3 #[v] w fun e w' => e = .returned (.bool true) ∧ Below w.heap.size w w' := by
  obtain ⟨i0, hi, hz0, hz1, hz2⟩ := info_parts infoO
  have HL : Hid _ := hl
  obtain ⟨pp, cap, rfl, hc⟩ := hl
  have HC : Hid _ := hc
  clear hc
  go_enter Try.func3, Try.ntmps3
  go_wp2
  go_loopw [3, 4] (fun ov iv wr => ∃ k : Nat, k ≤ l.length ∧ iv = .int .i64 ((k : Int) - 1) ∧ Hid (wr.ownsRow w.heap.size 24 6 ov (l.drop k).reverse.length (odL (l.drop k).reverse)) ∧ Below w.heap.size w wr) (fun _ iv _ => (intOf iv + 1).toNat)
  case atStart => exact ⟨l.length, Nat.le_refl _, rfl, by show World.ownsRow _ _ _ _ _ _ _; rw [List.drop_length]; exact World.ownsRow_nil _ _ _ _, Below.refl _ _⟩
  case round =>
    obtain ⟨k, hk, rfl, HO, hb⟩ := hrel
    have hz := hb.size
    obtain ⟨oc, ocap, rfl⟩ := own_form HO.out
    cases k with
    | succ k =>
      have hge : (0 : Int) ≤ ((k + 1 : Nat) : Int) - 1 := by omega
      have hke : ((k + 1 : Nat) : Int) - 1 = (k : Int) := by omega
      obtain ⟨o, ho⟩ : ∃ o, l[k]? = some o := ⟨l[k], by simp⟩
      rcases HC.out with hnil | ⟨gb, off, hp, hcs⟩
      · exfalso; rw [hnil] at hk; simp at hk
      subst hp
      obtain ⟨c0, c1, c2, c3, c4, c5⟩ := Ods.six hcs ho
      have hbl := World.block_lt_of_cell? w _ c0
      have d0 := (hb.cell (p := ⟨gb, off + k * 6, none⟩) hbl).trans c0
      have d1 := (hb.cell (p := ⟨gb, off + k * 6 + 1, none⟩) hbl).trans c1
      have d2 := (hb.cell (p := ⟨gb, off + k * 6 + 2, none⟩) hbl).trans c2
      have d3 := (hb.cell (p := ⟨gb, off + k * 6 + 3, none⟩) hbl).trans c3
      have d4 := (hb.cell (p := ⟨gb, off + k * 6 + 4, none⟩) hbl).trans c4
      have d5 := (hb.cell (p := ⟨gb, off + k * 6 + 5, none⟩) hbl).trans c5
      have HT : Hid _ := drop_rev ho
      have hlk : (l.drop (k + 1)).reverse.length ≤ l.length := by simp
      have hkl : (k : Int) < (l.length : Int) := by omega
      rw [hke]
      clear c0 c1 c2 c3 c4 c5 hcs ho hke hge
      generalize hL1 : (l.drop (k + 1)).reverse.length = n1 at *
      have HL1 : Hid _ := hL1
      clear hL1
      go_wp2_with (at_builtin; refine wpList_append_own _ rfl (.tmp 16) (.tmp 21) 22 rfl w.heap.size 24 i0 (.agg #[.int .i64 0, .int .i64 0, .int .i64 0, .int .i64 0, .int .i64 0, .bool false]) 6 48 Try.underlying22 hi hz0 hz1 hz2 rfl (by decide) _ _ _ rfl (World.ownsRow.alloc HO.out _) ⟨wr.heap.size, 0, none⟩ 1 1 (oC o) rfl rfl ?c1 ?c2 ?c3 ?c4 ?c5 ?_)
      case c1 =>
        intro j u hj
        first
          | rw [Addr.add_lit]
          | skip
        first
          | (refine (blk_new wr wr.heap.size _ _ rfl).cell ?_; simpa [oC] using hj)
          | simpa [oC] using hj
      case c2 => exact oC_one o
      case c3 => unfold maxLen; omega
      case c4 => omega
      case c5 => first | (simp; omega) | omega
      intro v' w4 ho' hg' _
      have HO' : Hid _ := ho'
      clear ho'
      go_wp2
      refine ⟨⟨k, by omega, by first | rfl | (congr 1; omega), ?_, ?_⟩, by simp [intOf]⟩
      · show World.ownsRow _ _ _ _ _ _ _
        rw [HT.out, odL_app, List.length_append, HL1.out, show odL [o] = oC o by simp [odL]]
        exact HO'.out
      · exact belG (hb.alloc (by omega) _) hg' (fun q hq => (World.ownsRow.lt HO.out q hq).1) (by simp; omega)
    | zero =>
      have hge : ¬ (0 : Int) ≤ ((0 : Nat) : Int) - 1 := by omega
      have HO2 : Hid (wr.ownsRow w.heap.size 24 6 (.slice oc (l.drop 0).reverse.length ocap) l.reverse.length (odL l.reverse)) := HO.out
      have H1 : Hid _ := cross_calls (.slice pp l.length cap) l wr (Ods.below HL.out hb) (by omega)
      have HD : Hid (Ods wr (.slice oc l.length ocap) l.reverse) := by
        have q := ods_own HO2.out
        rw [List.drop_zero, List.length_reverse] at q
        exact q
      have HR : Hid _ := crs_reverse l
      generalize hcp : crs l = cc at *
      have HCC : Hid _ := hcp
      clear hcp
      rw [List.drop_zero, List.length_reverse]
      clear HO2 HO
      go_wp2_with fail
      refine Calls.mono H1.out ?_
      rintro e w1 ⟨rfl, b1⟩
      have H2 : Hid _ := cross_calls (.slice oc l.length ocap) l.reverse w1 (Ods.below HD.out b1) (by rw [List.length_reverse]; omega)
      rw [HR.out] at H2
      go_wp2_with fail
      refine Calls.mono H2.out ?_
      rintro e w2 ⟨rfl, b2⟩
      go_wp2_with fail
      refine (awake_calls w2).mono ?_
      rintro e w3 ⟨rfl, b3⟩
      go_wp2
      go_ret
      have B1 := hb.trans (b1.mono hz)
      have B2 := B1.trans (b2.mono B1.size)
      exact ⟨rfl, B2.trans (b3.mono B2.size)⟩
end Go.Proofs.Ytjglmlojdhjgfaa
