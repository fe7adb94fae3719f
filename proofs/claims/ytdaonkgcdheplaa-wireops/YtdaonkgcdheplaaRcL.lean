/- Reading records. -/
import Derived.Test.YtdaonkgcdheplaaRcA
namespace Go.Proofs.Ytdaonkgcdheplaa
open Go.RowKit
set_option linter.unusedVariables false
set_option linter.unusedSimpArgs false

theorem infoRecord : (Try.prog.info? 51).map (fun i => (i.zero, i.size, i.bytes)) = some (some (.agg #[.string ⟨#[]⟩, .string ⟨#[]⟩]), 2, 32) := by kernel_rfl

/-- What reading records gives. -/
def ReadsRc (r : Except Int (List Rc × Nat)) (b : Nat) (s : ByteArray) (w : World) (e : Ending) (w' : World) : Prop :=
  match r with
  | .ok (l, nx) => ∃ v, e = .returned v ∧ w'.ownsRow w.heap.size 51 2 v l.length (rcCells l) ∧ Off b w w' ∧ Rdr w' b s nx
  | .error er => e = .panicked (gu er) ∧ Off b w w'

theorem own_slice {w : World} {base n z : Nat} {t : TypeId} {v : Value} {xs : List Value} (h : w.ownsRow base t z v n xs) : ∃ p c, v = .slice p n c := by
  rcases h.2 with ⟨rfl, h'⟩ | ⟨g, cap, cur, rfl, _⟩
  · rw [h']; exact ⟨none, 0, rfl⟩
  · exact ⟨_, _, rfl⟩

theorem grown_set (w : World) (p : Addr) (u : Value) : w.grownBy (w.setCell p u) (some p.block) :=
  ⟨rfl, rfl, rfl, by simp [World.setCell], fun k _ hn => Below.heap_setCell _ _ _ _ (fun e => hn (by rw [e]))⟩

set_option maxRecDepth 100000 in
set_option maxHeartbeats 2000000 in
theorem records_calls (b : Nat) (s : ByteArray) (a : Nat) (w : World) (hr : Rdr w b s a) (hs : s.size ≤ maxLen) (ha : a ≤ s.size) :
    Calls Try.prog 32 #[.pointer (some ⟨b, 0, none⟩)] w (ReadsRc (rdRcs s a 4096) b s w) := by
  obtain ⟨i0, hi, hz0, hz1, hz2⟩ := info_parts infoRecord
  have hbl := hr.lt
  have hc := count_calls b s a 4096 w hr hs ha
  cases h1 : rdCount s a 4096 with
  | error er =>
    have hfin : Hid (rdRcs s a 4096 = .error er) := by show _ = _; unfold rdRcs rdCnt; rw [h1]
    rw [h1] at hc
    clear h1
    go_enter Try.func32, Try.ntmps32
    go_wp2_with fail
    refine hc.mono ?_
    rintro e w1 ⟨rfl, ho⟩
    exact ⟨rfl, by unfold ReadsRc; rw [hfin.out]; exact ⟨rfl, ho⟩⟩
  | ok p =>
    obtain ⟨n, a1⟩ := p
    have hn := rdCount_le h1
    have hfin : Hid (rdRcs s a 4096 = rdRep (rdRc s) n a1 []) := by show _ = _; unfold rdRcs rdCnt; rw [h1]
    rw [h1] at hc
    clear h1
    go_enter Try.func32, Try.ntmps32
    go_wp2_with fail
    refine hc.mono ?_
    rintro e w1 ⟨rfl, ho1, hr1⟩
    go_wp2
    go_loopw [3, 7] (fun v i wr => ∃ (k a2 : Nat) (l : List Rc), k ≤ n ∧ i = .int .i64 k ∧ l.length = k ∧ a2 ≤ s.size ∧ Hid (rdRcs s a 4096 = rdRep (rdRc s) (n - k) a2 l) ∧ wr.ownsRow w.heap.size 51 2 v k (rcCells l) ∧ Off b w wr ∧ Rdr wr b s a2) (fun _ i _ => n - (intOf i).toNat)
    case atStart => exact ⟨0, a1, [], Nat.zero_le _, rfl, rfl, hn.2.1, hfin, World.ownsRow_nil _ _ _ _, ho1, hr1⟩
    case round =>
      obtain ⟨k, a2, l, hk, rfl, hlk, ha2, hR, hown, ho, hrr⟩ := hrel
      have hz := ho.size
      clear hfin ho1 hr1
      by_cases hlt : k < n
      · have hd : decide ((k : Int) < n) = true := by simp only [decide_eq_true_eq]; omega
        have hstep : Hid (rdRcs s a 4096 = rdRep (rdRc s) (n - (k + 1) + 1) a2 l) := by show _ = _; rw [hR.out, show n - k = (n - (k + 1)) + 1 by omega]
        clear hR
        have hO1 := ho.alloc (.cells #[.string ⟨#[]⟩, .string ⟨#[]⟩] 51)
        have hrr1 := hrr.alloc (.cells #[.string ⟨#[]⟩, .string ⟨#[]⟩] 51)
        have X1 := blk_new wr wr.heap.size #[.string ⟨#[]⟩, .string ⟨#[]⟩] 51 rfl
        have hown1 := hown.alloc (.cells #[.string ⟨#[]⟩, .string ⟨#[]⟩] 51)
        have ht := text_calls b s a2 _ hrr1 hs ha2
        cases h2 : rdText s a2 with
        | error er =>
          have hfin2 : Hid (rdRcs s a 4096 = .error er) := by show _ = _; rw [hstep.out]; simp only [rdRep, rdRc, h2]
          rw [h2] at ht
          clear h2 hstep
          go_wp2_with fail
          refine ht.mono ?_
          rintro e w2 ⟨rfl, ho2⟩
          exact ⟨rfl, by unfold ReadsRc; rw [hfin2.out]; exact ⟨rfl, hO1.trans ho2⟩⟩
        | ok q =>
          obtain ⟨t, a3⟩ := q
          have l2 := rdText_le h2
          rw [h2] at ht
          go_wp2_with fail
          refine ht.mono ?_
          rintro e w2 ⟨rfl, ho2, hr2⟩
          have X2 := X1.off ho2 (by omega)
          have hO2 := hO1.trans ho2
          have hown2 := hown1.kept ho2.by (Or.inr (fun e => by have := (hown1.lt b e).1; omega))
          have c0 := X2.cell (o := 0) rfl
          have f0 := X2.frozen (o := 0)
          have hne : (Value.ownBlock (u3)) ≠ some wr.heap.size := fun e => by have := (hown.lt _ e).2; omega
          obtain ⟨W3, hW3, X3, R3, O3, own3⟩ : ∃ W3, (w2.setCell ⟨wr.heap.size, 0, none⟩ (.string t)) = W3 ∧ Blk W3 wr.heap.size #[.string t, .string ⟨#[]⟩] 51 ∧ Rdr W3 b s a3 ∧ Off b w W3 ∧ W3.ownsRow w.heap.size 51 2 u3 k (rcCells l) := by
            refine ⟨_, rfl, ?_, ?_, ?_, ?_⟩
            · have hx := X2.set 0 (.string t)
              simpa using hx
            · exact hr2.setOther (p := ⟨wr.heap.size, 0, none⟩) (by simp; omega) _
            · exact Off.own hO2 (p := ⟨wr.heap.size, 0, none⟩) (by simp; omega) _
            · exact hown2.kept (grown_set _ ⟨wr.heap.size, 0, none⟩ _) (Or.inr hne)
          go_wp2_with fail
          clear hW3 c0 f0 X2 hr2 hO2 hown2 ho2 X1 hO1 hrr1 hown1
          have ht3 := text_calls b s a3 _ R3 hs l2.2.1
          cases h3 : rdText s a3 with
          | error er =>
            have hfin2 : Hid (rdRcs s a 4096 = .error er) := by show _ = _; rw [hstep.out]; simp only [rdRep, rdRc, h2, h3]
            rw [h3] at ht3
            clear h2 h3 hstep
            refine ht3.mono ?_
            rintro e w4 ⟨rfl, ho4⟩
            exact ⟨rfl, by unfold ReadsRc; rw [hfin2.out]; exact ⟨rfl, O3.trans ho4⟩⟩
          | ok q =>
            obtain ⟨u, a4⟩ := q
            have l3 := rdText_le h3
            have hfin2 : Hid (rdRcs s a 4096 = rdRep (rdRc s) (n - (k + 1)) a4 (l ++ [⟨t, u⟩])) := by show _ = _; rw [hstep.out]; simp only [rdRep, rdRc, h2, h3]
            rw [h3] at ht3
            clear h2 h3 hstep
            refine ht3.mono ?_
            rintro e w4 ⟨rfl, ho4, hr4⟩
            have X4 := X3.off ho4 (by omega)
            have hO4 := O3.trans ho4
            have hown4 := own3.kept ho4.by (Or.inr (fun e => by have := (own3.lt b e).1; omega))
            have c1 := X4.cell (o := 1) rfl
            have f1 := X4.frozen (o := 1)
            have hz4 := hO4.size
            have hx4 := X4.lt
            have hne4 : (Value.ownBlock (u3)) ≠ some wr.heap.size := fun e => by have := (hown.lt _ e).2; omega
            obtain ⟨W5, hW5, X5, R5, O5, own5⟩ : ∃ W5, (w4.setCell ⟨wr.heap.size, 1, none⟩ (.string u)) = W5 ∧ Blk W5 wr.heap.size #[.string t, .string u] 51 ∧ Rdr W5 b s a4 ∧ Off b w W5 ∧ W5.ownsRow w.heap.size 51 2 u3 k (rcCells l) := by
              refine ⟨_, rfl, ?_, ?_, ?_, ?_⟩
              · have hx := X4.set 1 (.string u)
                simpa using hx
              · exact hr4.setOther (p := ⟨wr.heap.size, 1, none⟩) (by simp; omega) _
              · exact Off.own hO4 (p := ⟨wr.heap.size, 1, none⟩) (by simp; omega) _
              · exact hown4.kept (grown_set _ ⟨wr.heap.size, 1, none⟩ _) (Or.inr hne4)
            have e0 := X5.cell (o := 0) rfl
            have e1 := X5.cell (o := 1) rfl
            have hz5 := O5.size
            go_wp2_with (at_builtin; refine wpList_append_own _ rfl (.tmp 15) (.tmp 17) 22 rfl w.heap.size 51 i0 (.agg #[.string ⟨#[]⟩, .string ⟨#[]⟩]) 2 32 Try.underlying22 hi hz0 hz1 hz2 rfl (by decide) _ _ _ rfl (own5.alloc _) ⟨W5.heap.size, 0, none⟩ 1 1 [.string t, .string u] rfl rfl ?c1 ?c2 ?c3 ?c4 ?c5 ?_)
            case c1 =>
              intro j u hj
              rw [Addr.add_lit]
              refine (blk_new W5 W5.heap.size _ _ rfl).cell ?_
              simpa using hj
            case c2 =>
              intro u hu
              simp at hu
              rcases hu with rfl | rfl <;> rfl
            case c3 => unfold maxLen; omega
            case c4 => omega
            case c5 => simp; omega
            intro v' w6 hown' hgrow _
            go_wp2
            refine ⟨⟨k + 1, a4, l ++ [⟨t, u⟩], by omega, by go_num, by simp; omega, l3.2.1, hfin2, ?_, ?_, ?_⟩, by simp [intOf]; omega⟩
            · have e : rcCells (l ++ [⟨t, u⟩]) = rcCells l ++ [.string t, .string u] := by simp [rcCells]
              rw [e]; exact hown'
            · exact (O5.alloc _).grown hgrow (fun k hk => (hown.lt k hk).1)
            · exact (R5.alloc _).grown hgrow (fun e => by have := (hown.lt b e.symm).1; omega)
      · have hd : decide ((k : Int) < n) = false := by simp only [decide_eq_false_iff_not]; omega
        have hfin2 : Hid (rdRcs s a 4096 = .ok (l, a2)) := by
          show _ = _
          rw [hR.out, show n - k = 0 by omega]; rfl
        clear hR
        subst hlk
        go_wp2
        go_ret
        exact (by unfold ReadsRc; rw [hfin2.out]; exact ⟨_, rfl, hown, ho, hrr⟩)
end Go.Proofs.Ytdaonkgcdheplaa
