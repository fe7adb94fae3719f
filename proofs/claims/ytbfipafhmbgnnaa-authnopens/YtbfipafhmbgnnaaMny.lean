/- The document's reading of messages. -/
import Derived.Test.YtbfipafhmbgnnaaRefF
import Derived.Test.YtbfipafhmbgnnaaPure5
namespace Go.Proofs.Ytbfipafhmbgnnaa
open Go.RowKit
set_option linter.unusedVariables false
set_option linter.unusedSimpArgs false

def zeroSgR : Sg := ⟨0, ⟨#[]⟩, ⟨#[]⟩⟩

theorem rdText_err {s : ByteArray} {a : Nat} {er : Int} (ha : a ≤ s.size) (h : rdText s a = .error er) : er ≠ 0 := by
  rw [rdText_list s a ha] at h
  cases e : rdTP (s.data.toList.drop a) with
  | error er' => rw [e] at h; simp only [shiftR, Except.error.injEq] at h; subst h; exact nz_text _ _ e
  | ok p => rw [e] at h; cases h

/-- What the document's reading of a message gives. -/
def SgGot (r : Except Int (Sg × Nat)) (e : Ending) : Prop :=
  match r with
  | .ok (m, nx) => e = .returned (.tuple #[m.val, .int .i64 nx, .int .i64 0])
  | .error er => ∃ m : Sg, e = .returned (.tuple #[m.val, .int .i64 0, .int .i64 er])

set_option maxRecDepth 100000 in
set_option maxHeartbeats 2000000 in
theorem signed_ref (s : ByteArray) (a : Nat) (w : World) (hs : s.size ≤ maxLen) (ha : a ≤ s.size) :
    Calls Try.prog 44 #[.string s, .int .i64 a] w fun e w' => SgGot (rdSg s a) e ∧ Below w.heap.size w w' := by
  have X0 := blk_new w w.heap.size #[.int .i64 0, .string ⟨#[]⟩, .string ⟨#[]⟩] 28 rfl
  have B0 : Below w.heap.size w (w.alloc (.cells #[.int .i64 0, .string ⟨#[]⟩, .string ⟨#[]⟩] 28)) := (Below.refl _ _).alloc (Nat.le_refl _) _
  have y0 := X0.cell (o := 0) rfl
  have y1 := X0.cell (o := 1) rfl
  have y2 := X0.cell (o := 2) rfl
  have g0 := X0.frozen (o := 0)
  have g1 := X0.frozen (o := 1)
  have g2 := X0.frozen (o := 2)
  have hi := fun wx => int_ref s a wx hs ha
  have HI : Hid _ := hi
  clear hi
  unfold rdSg
  cases h1 : rdInt s a with
  | error er =>
    have hne : (er != 0) = true := by simpa using rdInt_err h1
    rw [h1] at HI
    simp only [got] at HI
    go_enter Try.func44, Try.ntmps44
    go_wp2_with fail
    refine (HI.out _).mono ?_
    rintro e w1 ⟨rfl, rfl⟩
    go_wp2
    refine bodyPost_ret (v := .tuple #[zeroSgR.val, .int .i64 0, .int .i64 er]) (by simp [results, Try.results44, go_sem, zeroSgR, Sg.val]) rfl ⟨⟨zeroSgR, rfl⟩, by go_grown⟩
  | ok p1 =>
    obtain ⟨n, a1⟩ := p1
    have l1 := rdInt_le h1
    rw [h1] at HI
    simp only [got] at HI
    have ht := fun wx => text_ref s a1 wx hs l1.2.1
    have HT : Hid _ := ht
    clear h1 ht
    simp only
    cases h2 : rdText s a1 with
    | error er =>
      have hne : (er != 0) = true := by simpa using rdText_err l1.2.1 h2
      rw [h2] at HT
      simp only [gotT] at HT
      go_enter Try.func44, Try.ntmps44
      go_wp2_with fail
      refine (HI.out _).mono ?_
      rintro e w1 ⟨rfl, rfl⟩
      go_wp2_with fail
      refine (HT.out _).mono ?_
      rintro e w2 ⟨rfl, rfl⟩
      go_wp2
      refine bodyPost_ret (v := .tuple #[zeroSgR.val, .int .i64 0, .int .i64 er]) (by simp [results, Try.results44, go_sem, zeroSgR, Sg.val]) rfl ⟨⟨zeroSgR, rfl⟩, by go_grown⟩
    | ok p2 =>
      obtain ⟨t, a2⟩ := p2
      have l2 := rdText_le h2
      rw [h2] at HT
      simp only [gotT] at HT
      have hu := fun wx => text_ref s a2 wx hs l2.2.1
      have HU : Hid _ := hu
      clear h2 hu
      simp only
      cases h3 : rdText s a2 with
      | error er =>
        rw [h3] at HU
        simp only [gotT] at HU
        go_enter Try.func44, Try.ntmps44
        go_wp2_with fail
        refine (HI.out _).mono ?_
        rintro e w1 ⟨rfl, rfl⟩
        go_wp2_with fail
        refine (HT.out _).mono ?_
        rintro e w2 ⟨rfl, rfl⟩
        go_wp2_with fail
        refine (HU.out _).mono ?_
        rintro e w3 ⟨rfl, rfl⟩
        go_wp2
        refine bodyPost_ret (v := .tuple #[Sg.val ⟨(n : Int), t, ⟨#[]⟩⟩, .int .i64 0, .int .i64 er]) (by simp [results, Try.results44, go_sem, Sg.val]) rfl ⟨⟨⟨(n : Int), t, ⟨#[]⟩⟩, rfl⟩, by go_grown⟩
      | ok p3 =>
        obtain ⟨u, a3⟩ := p3
        rw [h3] at HU
        simp only [gotT] at HU
        go_enter Try.func44, Try.ntmps44
        go_wp2_with fail
        refine (HI.out _).mono ?_
        rintro e w1 ⟨rfl, rfl⟩
        go_wp2_with fail
        refine (HT.out _).mono ?_
        rintro e w2 ⟨rfl, rfl⟩
        go_wp2_with fail
        refine (HU.out _).mono ?_
        rintro e w3 ⟨rfl, rfl⟩
        go_wp2
        refine bodyPost_ret (v := .tuple #[Sg.val ⟨(n : Int), t, u⟩, .int .i64 a3, .int .i64 0]) (by simp [results, Try.results44, go_sem, Sg.val]) rfl ⟨rfl, by go_grown⟩

theorem rdSg_err {s : ByteArray} {a : Nat} {er : Int} (ha : a ≤ s.size) (h : rdSg s a = .error er) : er ≠ 0 := by
  rw [rdSg_list s a ha] at h
  cases e : rdSgL (s.data.toList.drop a) with
  | error er' => rw [e] at h; simp only [shiftR, Except.error.injEq] at h; subst h; exact nz_sg _ _ e
  | ok p => rw [e] at h; cases h

theorem below_grownM {b : Nat} {x w w' : World} {row : Option Nat} (h : Below b x w) (hg : w.grownBy w' row) (hr : ∀ k, row = some k → b ≤ k) (hbs : b ≤ w.heap.size) : Below b x w' :=
  ⟨hg.os.trans h.os, hg.tape.trans h.tape, hg.output.trans h.output, Nat.le_trans h.size hg.size, fun k hk => (hg.block k (by omega) (fun e => by have := hr k e.symm; omega)).trans (h.block k hk)⟩

/-- What the document's reading of messages gives. -/
def GotM (r : Except Int (List Sg × Nat)) (w : World) (e : Ending) (w' : World) : Prop :=
  match r with
  | .ok (l, nx) => ∃ v, e = .returned (.tuple #[v, .int .i64 nx, .int .i64 0]) ∧ w'.ownsRow w.heap.size 28 3 v l.length (sgCells l) ∧ Below w.heap.size w w'
  | .error er => e = .returned (.tuple #[.slice none 0 0, .int .i64 0, .int .i64 er]) ∧ Below w.heap.size w w'

set_option maxRecDepth 100000 in
set_option maxHeartbeats 2000000 in
theorem many_ref (s : ByteArray) (a most : Nat) (w : World) (hs : s.size ≤ maxLen) (ha : a ≤ s.size) (hmost : most ≤ 64) :
    Calls Try.prog 30 #[.string s, .int .i64 a, .int .i64 most] w (GotM (rdList s a most) w) := by
  obtain ⟨i0, hi, hz0, hz1, hz2⟩ := info_parts infoSigned
  have hint := int_ref s a w hs ha
  cases h1 : rdInt s a with
  | error er =>
    have hne : (er != 0) = true := by simpa using rdInt_err h1
    have hfin : Hid (rdList s a most = .error er) := by show _ = _; unfold rdList rdCount; rw [h1]
    rw [h1] at hint
    simp only [got] at hint
    clear h1
    go_enter Try.func30, Try.ntmps30
    go_wp2_with fail
    refine hint.mono ?_
    rintro e w1 ⟨rfl, rfl⟩
    go_wp2
    refine bodyPost_ret (v := .tuple #[.slice none 0 0, .int .i64 0, .int .i64 er]) (by simp [results, Try.results30, go_sem]) rfl ?_
    rw [hfin.out]
    exact ⟨rfl, Below.refl _ _⟩
  | ok p =>
    obtain ⟨n, a1⟩ := p
    have l1 := rdInt_le h1
    rw [h1] at hint
    simp only [got] at hint
    by_cases hm : most < n
    · have hfin : Hid (rdList s a most = .error 2) := by show _ = _; unfold rdList rdCount; rw [h1]; simp only [hm, if_true]
      have hd : decide ((most : Int) < n) = true := by simp only [decide_eq_true_eq]; omega
      clear h1
      go_enter Try.func30, Try.ntmps30
      go_wp2_with fail
      refine hint.mono ?_
      rintro e w1 ⟨rfl, rfl⟩
      go_wp2
      refine bodyPost_ret (v := .tuple #[.slice none 0 0, .int .i64 0, .int .i64 2]) (by simp [results, Try.results30, go_sem]) rfl ?_
      rw [hfin.out]
      exact ⟨rfl, Below.refl _ _⟩
    · have hfin : Hid (rdList s a most = rdMany s n a1 []) := by show _ = _; unfold rdList rdCount; rw [h1]; simp only [hm, if_false]
      have hd : decide ((most : Int) < n) = false := by simp only [decide_eq_false_iff_not]; omega
      clear h1
      go_enter Try.func30, Try.ntmps30
      go_wp2_with fail
      refine hint.mono ?_
      rintro e w1 ⟨rfl, rfl⟩
      go_wp2
      go_loopw [1, 11, 12] (fun at' v i wr => ∃ (k a2 : Nat) (l : List Sg), k ≤ n ∧ at' = .int .i64 a2 ∧ i = .int .i64 k ∧ l.length = k ∧ a2 ≤ s.size ∧ Hid (rdList s a most = rdMany s (n - k) a2 l) ∧ wr.ownsRow w1.heap.size 28 3 v k (sgCells l) ∧ Below w1.heap.size w1 wr) (fun _ _ i _ => n - (intOf i).toNat)
      case atStart => exact ⟨0, a1, [], Nat.zero_le _, rfl, rfl, rfl, l1.2.1, hfin, World.ownsRow_nil _ _ _ _, Below.refl _ _⟩
      case round =>
        obtain ⟨k, a2, l, hk, rfl, rfl, hlk, ha2, hR, hown, hb⟩ := hrel
        have hz := hb.size
        by_cases hlt : k < n
        · have hd2 : decide ((k : Int) < n) = true := by simp only [decide_eq_true_eq]; omega
          have hsg := signed_ref s a2 wr hs ha2
          cases h2 : rdSg s a2 with
          | error er =>
            have hne : (er != 0) = true := by simpa using rdSg_err ha2 h2
            have hfin2 : Hid (rdList s a most = .error er) := by
              show _ = _
              rw [hR.out, show n - k = (n - k - 1) + 1 by omega]
              simp only [rdMany, h2]
            rw [h2] at hsg
            clear h2 hR hfin
            go_wp2_with fail
            refine hsg.mono ?_
            rintro e w2 ⟨⟨m, rfl⟩, b2⟩
            unfold Sg.val
            go_wp2
            refine bodyPost_ret (v := .tuple #[.slice none 0 0, .int .i64 0, .int .i64 er]) (by simp [results, Try.results30, go_sem]) rfl ?_
            rw [hfin2.out]
            refine ⟨rfl, ?_⟩
            have hb2 := hb.trans (b2.mono hz)
            exact hb2.alloc hb2.size _
          | ok q =>
            obtain ⟨m, a3⟩ := q
            have lm := rdSg_le h2
            have hfin2 : Hid (rdList s a most = rdMany s (n - (k + 1)) a3 (l ++ [m])) := by
              show _ = _
              rw [hR.out, show n - k = (n - (k + 1)) + 1 by omega]
              simp only [rdMany, h2]
            rw [h2] at hsg
            clear h2 hR hfin
            go_wp2_with fail
            refine hsg.mono ?_
            rintro e w2 ⟨rfl, b2⟩
            have hown2 := hown.kept (w' := w2) (row := none) ⟨b2.os, b2.tape, b2.output, b2.size, fun k hk _ => b2.block k hk⟩ (by
              rcases hown.2 with ⟨h, _⟩ | ⟨g, cap, cur, h, _⟩
              · rw [h]; exact Or.inl rfl
              · rw [h]; exact Or.inr (by simp [Value.ownBlock]))
            have hb2 := hb.trans (b2.mono hz)
            have hz2' := b2.size
            have hb3 := hb2.alloc hb2.size (.cells #[.int .i64 m.frm, .string m.body, .string m.sig] 28)
            unfold Sg.val
            have hsz1 : (w2.alloc (.cells #[.int .i64 m.frm, .string m.body, .string m.sig] 28)).heap.size = w2.heap.size + 1 := by simp
            have hb4 := hb3.alloc hb3.size (.cells #[.int .i64 m.frm, .string m.body, .string m.sig] 28)
            go_wp2_with (at_builtin; refine wpList_append_own _ rfl (.tmp 44) (.tmp 46) 22 rfl w1.heap.size 28 i0 (.agg #[.int .i64 0, .string ⟨#[]⟩, .string ⟨#[]⟩]) 3 40 Try.underlying22 hi hz0 hz1 hz2 rfl (by decide) _ _ _ rfl ((hown2.alloc _).alloc _) ⟨w2.heap.size + 1, 0, none⟩ 1 1 [.int .i64 m.frm, .string m.body, .string m.sig] rfl rfl ?c1 ?c2 ?c3 ?c4 ?c5 ?_)
            case c1 =>
              intro j u hj
              rw [Addr.add_lit]
              refine (blk_new (w2.alloc (.cells #[.int .i64 m.frm, .string m.body, .string m.sig] 28)) (w2.heap.size + 1) _ _ hsz1.symm).cell ?_
              simpa using hj
            case c2 =>
              intro u hu
              simp at hu
              rcases hu with rfl | rfl | rfl <;> rfl
            case c3 => unfold maxLen; omega
            case c4 => omega
            case c5 => simp; omega
            intro v' w3 hown' hgrow _
            go_wp2
            refine ⟨⟨k + 1, a3, l ++ [m], by omega, rfl, by go_num, by simp; omega, lm.2.1, hfin2, ?_, ?_⟩, by simp [intOf]; omega⟩
            · have e : sgCells (l ++ [m]) = sgCells l ++ [.int .i64 m.frm, .string m.body, .string m.sig] := by simp [sgCells]
              rw [e]; exact hown'
            · exact below_grownM hb4 hgrow (fun k hk => (hown.lt k hk).1) hb4.size
        · have hd2 : decide ((k : Int) < n) = false := by simp only [decide_eq_false_iff_not]; omega
          have hfin2 : Hid (rdList s a most = .ok (l, a2)) := by
            show _ = _
            rw [hR.out, show n - k = 0 by omega]; rfl
          clear hR hfin
          subst hlk
          go_wp2
          refine bodyPost_ret (v := .tuple #[_, .int .i64 a2, .int .i64 0]) (by simp [results, Try.results30, go_sem]; rfl) rfl ?_
          rw [hfin2.out]
          exact ⟨_, rfl, hown, hb⟩

theorem rdList_err {s : ByteArray} {a most : Nat} {er : Int} (ha : a ≤ s.size) (h : rdList s a most = .error er) : er ≠ 0 := by
  rw [rdList_list s a most ha] at h
  cases e : cntR rdSgL most (s.data.toList.drop a) with
  | error er' => rw [e] at h; simp only [shiftR, Except.error.injEq] at h; subst h; exact nz_cnt nz_sg most _ _ e
  | ok p => rw [e] at h; cases h

theorem own_belowM {w w' : World} {base : Nat} {v : Value} {l : List Sg} (h : w.ownsRow base 28 3 v l.length (sgCells l)) (b : Below w.heap.size w w') : w'.ownsRow base 28 3 v l.length (sgCells l) :=
  h.kept (w' := w') (row := none) ⟨b.os, b.tape, b.output, b.size, fun k hk _ => b.block k hk⟩ (by
    rcases h.2 with ⟨h, _⟩ | ⟨g, cap, cur, h, _⟩
    · rw [h]; exact Or.inl rfl
    · rw [h]; exact Or.inr (by simp [Value.ownBlock]))

theorem own_len {w : World} {base : Nat} {v : Value} {l : List Sg} (h : w.ownsRow base 28 3 v l.length (sgCells l)) : ∃ p c, v = .slice p l.length c := by
  rcases h.2 with ⟨rfl, h'⟩ | ⟨g, cap, cur, rfl, _⟩
  · rw [h']; exact ⟨none, 0, rfl⟩
  · exact ⟨_, _, rfl⟩

end Go.Proofs.Ytbfipafhmbgnnaa
