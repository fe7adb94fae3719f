/- Reading lists of messages. -/
import Derived.Test.YtocphdikppeijaaWx13
namespace Go.Proofs.Ytocphdikppeijaa
open Go.RowKit
set_option linter.unusedVariables false
set_option linter.unusedSimpArgs false

theorem rdMany_le (s : ByteArray) : ∀ (k a : Nat) (acc l : List Sg) (nx : Nat), a ≤ s.size → rdMany s k a acc = .ok (l, nx) → a ≤ nx ∧ nx ≤ s.size ∧ l.length = acc.length + k ∧
    ((∀ m ∈ acc, m.body.size ≤ 1048576 ∧ m.sig.size ≤ 1048576) → ∀ m ∈ l, m.body.size ≤ 1048576 ∧ m.sig.size ≤ 1048576) := by
  intro k
  induction k with
  | zero => intro a acc l nx ha h; simp only [rdMany, Except.ok.injEq, Prod.mk.injEq] at h; obtain ⟨rfl, rfl⟩ := h; exact ⟨Nat.le_refl _, ha, by omega, fun h => h⟩
  | succ k ih =>
    intro a acc l nx ha h
    simp only [rdMany] at h
    cases h1 : rdSg s a with
    | error e => rw [h1] at h; cases h
    | ok p =>
      obtain ⟨m, a1⟩ := p
      have l1 := rdSg_le h1
      rw [h1] at h
      simp only at h
      obtain ⟨j1, j2, j3, j4⟩ := ih a1 (acc ++ [m]) l nx l1.2.1 h
      refine ⟨by omega, j2, by simp at j3; omega, fun hacc => j4 (fun x hx => ?_)⟩
      rcases List.mem_append.1 hx with h2 | h2
      · exact hacc x h2
      · simp at h2; subst h2; exact ⟨l1.2.2.1, l1.2.2.2.1⟩

theorem rdList_le {s : ByteArray} {a most nx : Nat} {l : List Sg} (h : rdList s a most = .ok (l, nx)) : a ≤ nx ∧ nx ≤ s.size ∧ l.length ≤ most ∧ ∀ m ∈ l, m.body.size ≤ 1048576 ∧ m.sig.size ≤ 1048576 := by
  unfold rdList rdCount at h
  cases h1 : rdInt s a with
  | error e => rw [h1] at h; cases h
  | ok p =>
    obtain ⟨n, a1⟩ := p
    have l1 := rdInt_le h1
    rw [h1] at h
    simp only at h
    by_cases hm : most < n
    · simp only [hm, if_true] at h; cases h
    · simp only [hm, if_false] at h
      obtain ⟨j1, j2, j3, j4⟩ := rdMany_le s n a1 [] l nx l1.2.1 h
      exact ⟨by omega, j2, by simp at j3; omega, j4 (by simp)⟩

theorem Rdr.grown {w w' : World} {b : Nat} {s : ByteArray} {a : Int} {row : Option Nat} (r : Rdr w b s a) (hg : w.grownBy w' row) (hne : some b ≠ row) : Rdr w' b s a :=
  ⟨(World.cell?_of_block (a := ⟨b, 0, none⟩) (hg.block b r.lt hne)).trans r.s, (World.cell?_of_block (a := ⟨b, 1, none⟩) (hg.block b r.lt hne)).trans r.a, (World.frozen?_of_block (a := ⟨b, 1, none⟩) (hg.block b r.lt hne)).trans r.f, Nat.lt_of_lt_of_le r.lt hg.size⟩

/-- What reading a list gives. -/
def ReadsL (r : Except Int (List Sg × Nat)) (b : Nat) (s : ByteArray) (w : World) (e : Ending) (w' : World) : Prop :=
  match r with
  | .ok (l, nx) => ∃ v, e = .returned v ∧ w'.ownsRow w.heap.size 58 3 v l.length (sgCells l) ∧ Off b w w' ∧ Rdr w' b s nx
  | .error er => e = .panicked (gu er) ∧ Off b w w'

set_option maxHeartbeats 1000000 in
theorem list_calls (b : Nat) (s : ByteArray) (a most : Nat) (w : World) (hr : Rdr w b s a) (hs : s.size ≤ maxLen) (ha : a ≤ s.size) (hmost : most ≤ 64) :
    Calls Try.prog 90 #[.pointer (some ⟨b, 0, none⟩), .int .i64 most] w (ReadsL (rdList s a most) b s w) := by
  obtain ⟨i0, hi, hz0, hz1, hz2⟩ := info_parts infoSigned
  have hbl := hr.lt
  have hc := count_calls b s a most w hr hs ha
  cases h1 : rdCount s a most with
  | error er =>
    have hfin : Hid (rdList s a most = .error er) := by show _ = _; unfold rdList; rw [h1]
    rw [h1] at hc
    clear h1
    go_enter Try.func90, Try.ntmps90
    go_wp2_with fail
    refine hc.mono ?_
    rintro e w1 ⟨rfl, ho⟩
    exact ⟨rfl, by unfold ReadsL; rw [hfin.out]; exact ⟨rfl, ho⟩⟩
  | ok p =>
    obtain ⟨n, a1⟩ := p
    have hn : n ≤ most ∧ a1 ≤ s.size := by
      unfold rdCount at h1
      cases h2 : rdInt s a with
      | error e => rw [h2] at h1; cases h1
      | ok q =>
        obtain ⟨n', a'⟩ := q
        have l2 := rdInt_le h2
        rw [h2] at h1
        simp only at h1
        by_cases hm : most < n'
        · simp only [hm, if_true] at h1; cases h1
        · simp only [hm, if_false, Except.ok.injEq, Prod.mk.injEq] at h1
          omega
    have hfin : Hid (rdList s a most = rdMany s n a1 []) := by show _ = _; unfold rdList; rw [h1]
    rw [h1] at hc
    clear h1
    go_enter Try.func90, Try.ntmps90
    go_wp2_with fail
    refine hc.mono ?_
    rintro e w1 ⟨rfl, ho1, hr1⟩
    go_wp2
    go_loopw [5, 9] (fun v i wr => ∃ (k a2 : Nat) (l : List Sg), k ≤ n ∧ i = .int .i64 k ∧ l.length = k ∧ a2 ≤ s.size ∧ Hid (rdList s a most = rdMany s (n - k) a2 l) ∧ wr.ownsRow w.heap.size 58 3 v k (sgCells l) ∧ Off b w wr ∧ Rdr wr b s a2) (fun _ i _ => n - (intOf i).toNat)
    case atStart => exact ⟨0, a1, [], Nat.zero_le _, rfl, rfl, hn.2, hfin, World.ownsRow_nil _ _ _ _, ho1, hr1⟩
    case round =>
      obtain ⟨k, a2, l, hk, rfl, hlk, ha2, hR, hown, ho, hrr⟩ := hrel
      have hz := ho.size
      by_cases hlt : k < n
      · have hd : decide ((k : Int) < n) = true := by simp only [decide_eq_true_eq]; omega
        have hsg := signed_calls b s a2 wr hrr hs ha2
        cases h2 : rdSg s a2 with
        | error er =>
          have hfin2 : Hid (rdList s a most = .error er) := by
            show _ = _
            rw [hR.out, show n - k = (n - k - 1) + 1 by omega]
            simp only [rdMany, h2]
          rw [h2] at hsg
          clear h2 hR hfin
          go_wp2_with fail
          refine hsg.mono ?_
          rintro e w2 ⟨rfl, ho2⟩
          exact ⟨rfl, by unfold ReadsL; rw [hfin2.out]; exact ⟨rfl, ho.trans ho2⟩⟩
        | ok q =>
          obtain ⟨m, a3⟩ := q
          have lm := rdSg_le h2
          have hfin2 : Hid (rdList s a most = rdMany s (n - (k + 1)) a3 (l ++ [m])) := by
            show _ = _
            rw [hR.out, show n - k = (n - (k + 1)) + 1 by omega]
            simp only [rdMany, h2]
          rw [h2] at hsg
          clear h2 hR hfin
          go_wp2_with fail
          refine hsg.mono ?_
          rintro e w2 ⟨rfl, ho2, hr2⟩
          have hown2 := hown.kept ho2.by (Or.inr (fun e => by have := (hown.lt b e).1; omega))
          have hz2' := ho2.size
          unfold Sg.val
          go_wp2_with (at_builtin; refine wpList_append_own _ rfl (.tmp 11) (.tmp 14) 61 rfl w.heap.size 58 i0 (.agg #[.int .i64 0, .string ⟨#[]⟩, .string ⟨#[]⟩]) 3 40 Try.underlying61 hi hz0 hz1 hz2 rfl (by decide) _ _ _ rfl (hown2.alloc _) ⟨w2.heap.size, 0, none⟩ 1 1 [.int .i64 m.frm, .string m.body, .string m.sig] rfl rfl ?c1 ?c2 ?c3 ?c4 ?c5 ?_)
          case c1 =>
            intro j u hj
            rw [Addr.add_lit]
            refine (blk_new w2 w2.heap.size _ _ rfl).cell ?_
            simpa using hj
          case c2 =>
            intro u hu
            simp at hu
            rcases hu with rfl | rfl | rfl <;> rfl
          case c3 => unfold maxLen; omega
          case c4 => omega
          case c5 => simp; omega
          intro v' w3 hown' hgrow _
          go_wp2
          refine ⟨⟨k + 1, a3, l ++ [m], by omega, by go_num, by simp; omega, lm.2.1, hfin2, ?_, ?_, ?_⟩, by simp [intOf]; omega⟩
          · have e : sgCells (l ++ [m]) = sgCells l ++ [.int .i64 m.frm, .string m.body, .string m.sig] := by simp [sgCells]
            rw [e]; exact hown'
          · exact ((ho.trans ho2).alloc _).grown hgrow (fun k hk => (hown.lt k hk).1)
          · exact (hr2.alloc _).grown hgrow (fun e => by have := (hown.lt b e.symm).1; omega)
      · have hd : decide ((k : Int) < n) = false := by simp only [decide_eq_false_iff_not]; omega
        have hfin2 : Hid (rdList s a most = .ok (l, a2)) := by
          show _ = _
          rw [hR.out, show n - k = 0 by omega]; rfl
        clear hR hfin
        subst hlk
        go_wp2
        go_ret
        exact (by unfold ReadsL; rw [hfin2.out]; exact ⟨_, rfl, hown, ho, hrr⟩)
end Go.Proofs.Ytocphdikppeijaa
