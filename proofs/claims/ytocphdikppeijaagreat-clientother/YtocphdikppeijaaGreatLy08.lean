/- Reading messages and lists. -/
import Derived.Test.YtocphdikppeijaaGreatLy07
namespace Go.Proofs.YtocphdikppeijaaGreat
open Go.RowKit
set_option linter.unusedVariables false
set_option linter.unusedSimpArgs false

/-- A message read at a place. -/
def rdSg (s : ByteArray) (a : Nat) : Except Int (Sg × Nat) :=
  match rdInt s a with
  | .error e => .error e
  | .ok (n, a1) =>
    match rdText s a1 with
    | .error e => .error e
    | .ok (t, a2) =>
      match rdText s a2 with
      | .error e => .error e
      | .ok (u, a3) => .ok (⟨n, t, u⟩, a3)

theorem Off.own {b : Nat} {x w : World} (h : Off b x w) {p : Addr} (hp : x.heap.size ≤ p.block) (u : Value) : Off b x (w.setCell p u) :=
  ⟨h.os, h.tape, h.output, by simpa [World.setCell] using h.size, fun k hk hb => (Below.heap_setCell _ _ _ _ (by omega)).trans (h.block k hk hb)⟩

set_option maxHeartbeats 1000000 in
theorem signed_calls (b : Nat) (s : ByteArray) (a : Nat) (w : World) (hr : Rdr w b s a) (hs : s.size ≤ maxLen) (ha : a ≤ s.size) :
    Calls Tryz.prog 90 #[.pointer (some ⟨b, 0, none⟩)] w (Reads (rdSg s a) Sg.val b s w) := by
  have hb := hr.lt
  have hn := fun wx hrx => number_calls b s a wx hrx hs ha
  have HN : Hid _ := hn
  clear hn
  unfold rdSg
  cases h1 : rdInt s a with
  | error er =>
    rw [h1] at HN
    go_enter Tryz.func90, Tryz.ntmps90
    go_wp2_with fail
    refine (HN.out _ ((hr.alloc _).alloc _)).mono ?_
    rintro e w1 ⟨rfl, ho⟩
    exact ⟨rfl, rfl, (((Off.refl b w).alloc _).alloc _).trans ho⟩
  | ok p1 =>
    obtain ⟨n, a1⟩ := p1
    have hl1 := rdInt_le h1
    rw [h1] at HN
    have ht := fun wx hrx => text_calls b s a1 wx hrx hs hl1.2.1
    have HT : Hid _ := ht
    clear h1 ht
    simp only
    cases h2 : rdText s a1 with
    | error er =>
      rw [h2] at HT
      go_enter Tryz.func90, Tryz.ntmps90
      go_wp2_with fail
      refine (HN.out _ ((hr.alloc _).alloc _)).mono ?_
      rintro e w1 ⟨rfl, ho, hr1⟩
      have hz1 := ho.size
      simp at hz1
      have c0 : w1.cell? ⟨w.heap.size + 1, 0, none⟩ = some (.int .i64 0) := by rw [ho.cell (by simp) (by simp; omega)]; simp [go_sem]
      have f0 : w1.frozen? ⟨w.heap.size + 1, 0, none⟩ = false := by rw [ho.frozen (by simp) (by simp; omega)]; simp [go_sem]
      go_wp2_with fail
      refine (HT.out _ (hr1.setOther (by simp; omega) _)).mono ?_
      rintro e w2 ⟨rfl, ho2⟩
      exact ⟨rfl, rfl, (Off.own ((((Off.refl b w).alloc _).alloc _).trans ho) (by simp) _).trans ho2⟩
    | ok p2 =>
      obtain ⟨t, a2⟩ := p2
      have hl2 := rdText_le h2
      rw [h2] at HT
      have ht := fun wx hrx => text_calls b s a2 wx hrx hs hl2.2.1
      have HU : Hid _ := ht
      clear h2 ht
      simp only
      cases h3 : rdText s a2 with
      | error er =>
        rw [h3] at HU
        go_enter Tryz.func90, Tryz.ntmps90
        go_wp2_with fail
        refine (HN.out _ ((hr.alloc _).alloc _)).mono ?_
        rintro e w1 ⟨rfl, ho, hr1⟩
        have hz1 := ho.size
        simp at hz1
        have c0 : w1.cell? ⟨w.heap.size + 1, 0, none⟩ = some (.int .i64 0) := by rw [ho.cell (by simp) (by simp; omega)]; simp [go_sem]
        have f0 : w1.frozen? ⟨w.heap.size + 1, 0, none⟩ = false := by rw [ho.frozen (by simp) (by simp; omega)]; simp [go_sem]
        have c1 : w1.cell? ⟨w.heap.size + 1, 1, none⟩ = some (.string ⟨#[]⟩) := by rw [ho.cell (by simp) (by simp; omega)]; simp [go_sem]
        have f1 : w1.frozen? ⟨w.heap.size + 1, 1, none⟩ = false := by rw [ho.frozen (by simp) (by simp; omega)]; simp [go_sem]
        have hO1 := Off.own ((((Off.refl b w).alloc (.cells #[.int .i64 0, .string ⟨#[]⟩, .string ⟨#[]⟩] 49)).alloc (.cells #[.int .i64 0, .string ⟨#[]⟩, .string ⟨#[]⟩] 49)).trans ho) (p := ⟨w.heap.size + 1, 0, none⟩) (by simp) (.int .i64 n)
        go_wp2_with fail
        refine (HT.out _ (hr1.setOther (by simp; omega) _)).mono ?_
        rintro e w2 ⟨rfl, ho2, hr2⟩
        have hz2 := ho2.size
        simp at hz2
        have d1 : w2.cell? ⟨w.heap.size + 1, 1, none⟩ = some (.string ⟨#[]⟩) := by rw [ho2.cell (by simp; omega) (by simp; omega), World.cell?_setCell_other _ _ _ _ (by simp)]; exact c1
        have g1 : w2.frozen? ⟨w.heap.size + 1, 1, none⟩ = false := by rw [ho2.frozen (by simp; omega) (by simp; omega), World.frozen?_setCell]; exact f1
        go_wp2_with fail
        refine (HU.out _ (hr2.setOther (by simp; omega) _)).mono ?_
        rintro e w3 ⟨rfl, ho3⟩
        exact ⟨rfl, rfl, (Off.own (hO1.trans ho2) (by simp) _).trans ho3⟩
      | ok p3 =>
        obtain ⟨u, a3⟩ := p3
        rw [h3] at HU
        clear h3
        go_enter Tryz.func90, Tryz.ntmps90
        go_wp2_with fail
        refine (HN.out _ ((hr.alloc _).alloc _)).mono ?_
        rintro e w1 ⟨rfl, ho, hr1⟩
        have hz1 := ho.size
        simp at hz1
        have X1 := ((blk_new (w.alloc (.cells #[.int .i64 0, .string ⟨#[]⟩, .string ⟨#[]⟩] 49)) (w.heap.size + 1) #[.int .i64 0, .string ⟨#[]⟩, .string ⟨#[]⟩] 49 (by simp))).off ho (by omega)
        have Y1 := ((blk_new w w.heap.size #[.int .i64 0, .string ⟨#[]⟩, .string ⟨#[]⟩] 49 rfl).alloc (.cells #[.int .i64 0, .string ⟨#[]⟩, .string ⟨#[]⟩] 49)).off ho (by omega)
        have hO1 := Off.own ((((Off.refl b w).alloc (.cells #[.int .i64 0, .string ⟨#[]⟩, .string ⟨#[]⟩] 49)).alloc (.cells #[.int .i64 0, .string ⟨#[]⟩, .string ⟨#[]⟩] 49)).trans ho) (p := ⟨w.heap.size + 1, 0, none⟩) (by simp) (.int .i64 n)
        have c0 := X1.cell (o := 0) rfl
        have f0 := X1.frozen (o := 0)
        go_wp2_with fail
        refine (HT.out _ (hr1.setOther (by simp; omega) _)).mono ?_
        rintro e w2 ⟨rfl, ho2, hr2⟩
        have X2 := (X1.set 0 (.int .i64 n)).off ho2 (by omega)
        have Y2 := (Y1.setOther (p := ⟨w.heap.size + 1, 0, none⟩) (by simp) (.int .i64 n)).off ho2 (by omega)
        have hO2 := Off.own (hO1.trans ho2) (p := ⟨w.heap.size + 1, 1, none⟩) (by simp) (.string t)
        simp only [List.setIfInBounds_toArray, List.set_cons_zero] at X2
        have c1 := X2.cell (o := 1) rfl
        have f1 := X2.frozen (o := 1)
        clear c0 f0
        go_wp2_with fail
        refine (HU.out _ (hr2.setOther (by simp; omega) _)).mono ?_
        rintro e w3 ⟨rfl, ho3, hr3⟩
        have X3 := (X2.set 1 (.string t)).off ho3 (by omega)
        have Y3 := (Y2.setOther (p := ⟨w.heap.size + 1, 1, none⟩) (by simp) (.string t)).off ho3 (by omega)
        have hO3 := Off.own (hO2.trans ho3) (p := ⟨w.heap.size + 1, 2, none⟩) (by simp) (.string u)
        simp only [List.setIfInBounds_toArray, List.set_cons_zero, List.set_cons_succ] at X3
        have d0 := X3.cell (o := 0) rfl
        have d1 := X3.cell (o := 1) rfl
        have d2 := X3.cell (o := 2) rfl
        have g2 := X3.frozen (o := 2)
        have y0 := Y3.cell (o := 0) rfl
        have y1 := Y3.cell (o := 1) rfl
        have y2 := Y3.cell (o := 2) rfl
        have q0 := Y3.frozen (o := 0)
        have q1 := Y3.frozen (o := 1)
        have q2 := Y3.frozen (o := 2)
        clear c1 f1
        go_wp2
        refine bodyPost_ret (v := Sg.val ⟨n, t, u⟩) (by simp [results, Tryz.results90, go_sem, Sg.val, y0, y1, y2]) rfl ⟨rfl, ?_, ?_⟩
        · exact Off.own (Off.own (Off.own hO3 (by simp) _) (by simp) _) (by simp) _
        · exact (((hr3.setOther (by simp; omega) _).setOther (by simp; omega) _).setOther (by simp; omega) _).setOther (by simp; omega) _

theorem rdSg_le {s : ByteArray} {a nx : Nat} {m : Sg} (h : rdSg s a = .ok (m, nx)) : a ≤ nx ∧ nx ≤ s.size ∧ m.body.size ≤ 1048576 ∧ m.sig.size ≤ 1048576 ∧ 0 ≤ m.frm ∧ m.frm ≤ 9007199254740992 := by
  unfold rdSg at h
  cases h1 : rdInt s a with
  | error e => rw [h1] at h; cases h
  | ok p =>
    obtain ⟨n, a1⟩ := p
    have l1 := rdInt_le h1
    rw [h1] at h
    simp only at h
    cases h2 : rdText s a1 with
    | error e => rw [h2] at h; cases h
    | ok p =>
      obtain ⟨t, a2⟩ := p
      have l2 := rdText_le h2
      rw [h2] at h
      simp only at h
      cases h3 : rdText s a2 with
      | error e => rw [h3] at h; cases h
      | ok p =>
        obtain ⟨u, a3⟩ := p
        have l3 := rdText_le h3
        rw [h3] at h
        simp only [Except.ok.injEq, Prod.mk.injEq] at h
        obtain ⟨rfl, rfl⟩ := h
        exact ⟨by omega, by omega, l2.2.2, l3.2.2, by simp, by simp; omega⟩

/-- So many messages, behind those that are there. -/
def rdMany (s : ByteArray) : Nat → Nat → List Sg → Except Int (List Sg × Nat)
  | 0, a, acc => .ok (acc, a)
  | k + 1, a, acc =>
    match rdSg s a with
    | .error e => .error e
    | .ok (m, a1) => rdMany s k a1 (acc ++ [m])

def rdList (s : ByteArray) (a most : Nat) : Except Int (List Sg × Nat) :=
  match rdCount s a most with
  | .error e => .error e
  | .ok (n, a1) => rdMany s n a1 []

def sgCells (l : List Sg) : List Value := l.flatMap fun m => [.int .i64 m.frm, .string m.body, .string m.sig]

theorem sgCells_len (l : List Sg) : (sgCells l).length = l.length * 3 := by
  induction l with
  | nil => rfl
  | cons m l ih =>
    have e : sgCells (m :: l) = [.int .i64 m.frm, .string m.body, .string m.sig] ++ sgCells l := by simp [sgCells]
    rw [e, List.length_append, ih, List.length_cons]; simp; omega

theorem sgCells_at (l : List Sg) (i : Nat) (h : i < l.length) : (sgCells l)[i * 3]? = some (.int .i64 l[i].frm) ∧ (sgCells l)[i * 3 + 1]? = some (.string l[i].body) ∧ (sgCells l)[i * 3 + 2]? = some (.string l[i].sig) := by
  induction l generalizing i with
  | nil => simp at h
  | cons m l ih =>
    have e : sgCells (m :: l) = .int .i64 m.frm :: .string m.body :: .string m.sig :: sgCells l := by simp [sgCells]
    rw [e]
    cases i with
    | zero => simp
    | succ i =>
      have h' : i < l.length := by simpa using h
      have e1 : (i + 1) * 3 = i * 3 + 3 := by omega
      rw [e1]
      simpa using ih i h'

/-- The messages that a row of one's own holds. -/
theorem sgs_of_own {w : World} {base : Nat} {v : Value} {l : List Sg} (h : w.ownsRow base 49 3 v l.length (sgCells l)) (hl : ∀ m ∈ l, m.body.size ≤ maxLen ∧ m.sig.size ≤ maxLen) : Sgs w v l := by
  obtain ⟨h1, h2⟩ := id h
  rcases h2 with ⟨rfl, h3⟩ | ⟨g, cap, cur, rfl, h3⟩
  · exact Or.inl ⟨⟨_, _, rfl⟩, List.eq_nil_of_length_eq_zero h3⟩
  · refine Or.inr ⟨g, 0, cap, rfl, fun i hi => ?_⟩
    obtain ⟨c0, c1, c2⟩ := sgCells_at l i hi
    have d0 := h.cells rfl _ _ c0
    have d1 := h.cells rfl _ _ c1
    have d2 := h.cells rfl _ _ c2
    obtain ⟨z1, z2⟩ := hl l[i] (List.getElem_mem hi)
    rw [Addr.add_lit] at d0 d1 d2
    exact ⟨d0, d1, d2, z1, z2⟩

theorem infoSigned : (Tryz.prog.info? 49).map (fun i => (i.zero, i.size, i.bytes)) = some (some (.agg #[.int .i64 0, .string ⟨#[]⟩, .string ⟨#[]⟩]), 3, 40) := by kernel_rfl
theorem Off.grown {b : Nat} {x w w' : World} {row : Option Nat} (h : Off b x w) (hg : w.grownBy w' row) (hr : ∀ k, row = some k → x.heap.size ≤ k) : Off b x w' :=
  ⟨hg.os.trans h.os, hg.tape.trans h.tape, hg.output.trans h.output, Nat.le_trans h.size hg.size, fun k hk hb => (hg.block k (Nat.lt_of_lt_of_le hk h.size) (fun e => by have := hr k e.symm; omega)).trans (h.block k hk hb)⟩
theorem Off.by {b : Nat} {w w' : World} (h : Off b w w') : w.grownBy w' (some b) := ⟨h.os, h.tape, h.output, h.size, fun k hk hn => h.block k hk (fun e => hn (by rw [e]))⟩
end Go.Proofs.YtocphdikppeijaaGreat

namespace Go.Proofs.YtocphdikppeijaaGreat
open Go.RowKit
set_option linter.unusedVariables false
set_option linter.unusedSimpArgs false

theorem rdMany_le (s : ByteArray) : ∀ (k a : Nat) (acc l : List Sg) (nx : Nat), a ≤ s.size → rdMany s k a acc = .ok (l, nx) → a ≤ nx ∧ nx ≤ s.size ∧ l.length = acc.length + k ∧
    ((∀ m ∈ acc, m.body.size ≤ 1048576 ∧ m.sig.size ≤ 1048576) → ∀ m ∈ l, m.body.size ≤ 1048576 ∧ m.sig.size ≤ 1048576) := by
  intro k
  induction k with
  | zero => intro a acc l nx ha h; simp only [rdMany, Except.ok.injEq, Prod.mk.injEq] at h; obtain ⟨rfl, rfl⟩ := h; exact ⟨Nat.le_refl _, ha, by omega, fun h => h⟩
  | succ k ih =>
    intro a acc l nx ha h
    simp only [rdMany] at h
    cases h1 : rdSg s a with
    | error e => rw [h1] at h; cases h
    | ok p =>
      obtain ⟨m, a1⟩ := p
      have l1 := rdSg_le h1
      rw [h1] at h
      simp only at h
      obtain ⟨j1, j2, j3, j4⟩ := ih a1 (acc ++ [m]) l nx l1.2.1 h
      refine ⟨by omega, j2, by simp at j3; omega, fun hacc => j4 (fun x hx => ?_)⟩
      rcases List.mem_append.1 hx with h2 | h2
      · exact hacc x h2
      · simp at h2; subst h2; exact ⟨l1.2.2.1, l1.2.2.2.1⟩

theorem rdList_le {s : ByteArray} {a most nx : Nat} {l : List Sg} (h : rdList s a most = .ok (l, nx)) : a ≤ nx ∧ nx ≤ s.size ∧ l.length ≤ most ∧ ∀ m ∈ l, m.body.size ≤ 1048576 ∧ m.sig.size ≤ 1048576 := by
  unfold rdList rdCount at h
  cases h1 : rdInt s a with
  | error e => rw [h1] at h; cases h
  | ok p =>
    obtain ⟨n, a1⟩ := p
    have l1 := rdInt_le h1
    rw [h1] at h
    simp only at h
    by_cases hm : most < n
    · simp only [hm, if_true] at h; cases h
    · simp only [hm, if_false] at h
      obtain ⟨j1, j2, j3, j4⟩ := rdMany_le s n a1 [] l nx l1.2.1 h
      exact ⟨by omega, j2, by simp at j3; omega, j4 (by simp)⟩

theorem Rdr.grown {w w' : World} {b : Nat} {s : ByteArray} {a : Int} {row : Option Nat} (r : Rdr w b s a) (hg : w.grownBy w' row) (hne : some b ≠ row) : Rdr w' b s a :=
  ⟨(World.cell?_of_block (a := ⟨b, 0, none⟩) (hg.block b r.lt hne)).trans r.s, (World.cell?_of_block (a := ⟨b, 1, none⟩) (hg.block b r.lt hne)).trans r.a, (World.frozen?_of_block (a := ⟨b, 1, none⟩) (hg.block b r.lt hne)).trans r.f, Nat.lt_of_lt_of_le r.lt hg.size⟩

/-- What reading a list gives. -/
def ReadsL (r : Except Int (List Sg × Nat)) (b : Nat) (s : ByteArray) (w : World) (e : Ending) (w' : World) : Prop :=
  match r with
  | .ok (l, nx) => ∃ v, e = .returned v ∧ w'.ownsRow w.heap.size 49 3 v l.length (sgCells l) ∧ Off b w w' ∧ Rdr w' b s nx
  | .error er => e = .panicked (gu er) ∧ Off b w w'

set_option maxHeartbeats 1000000 in
theorem list_calls (b : Nat) (s : ByteArray) (a most : Nat) (w : World) (hr : Rdr w b s a) (hs : s.size ≤ maxLen) (ha : a ≤ s.size) (hmost : most ≤ 64) :
    Calls Tryz.prog 128 #[.pointer (some ⟨b, 0, none⟩), .int .i64 most] w (ReadsL (rdList s a most) b s w) := by
  obtain ⟨i0, hi, hz0, hz1, hz2⟩ := info_parts infoSigned
  have hbl := hr.lt
  have hc := count_calls b s a most w hr hs ha
  cases h1 : rdCount s a most with
  | error er =>
    have hfin : Hid (rdList s a most = .error er) := by show _ = _; unfold rdList; rw [h1]
    rw [h1] at hc
    clear h1
    go_enter Tryz.func128, Tryz.ntmps128
    go_wp2_with fail
    refine hc.mono ?_
    rintro e w1 ⟨rfl, ho⟩
    exact ⟨rfl, by unfold ReadsL; rw [hfin.out]; exact ⟨rfl, ho⟩⟩
  | ok p =>
    obtain ⟨n, a1⟩ := p
    have hn : n ≤ most ∧ a1 ≤ s.size := by
      unfold rdCount at h1
      cases h2 : rdInt s a with
      | error e => rw [h2] at h1; cases h1
      | ok q =>
        obtain ⟨n', a'⟩ := q
        have l2 := rdInt_le h2
        rw [h2] at h1
        simp only at h1
        by_cases hm : most < n'
        · simp only [hm, if_true] at h1; cases h1
        · simp only [hm, if_false, Except.ok.injEq, Prod.mk.injEq] at h1
          omega
    have hfin : Hid (rdList s a most = rdMany s n a1 []) := by show _ = _; unfold rdList; rw [h1]
    rw [h1] at hc
    clear h1
    go_enter Tryz.func128, Tryz.ntmps128
    go_wp2_with fail
    refine hc.mono ?_
    rintro e w1 ⟨rfl, ho1, hr1⟩
    go_wp2
    go_loopw [5, 9] (fun v i wr => ∃ (k a2 : Nat) (l : List Sg), k ≤ n ∧ i = .int .i64 k ∧ l.length = k ∧ a2 ≤ s.size ∧ Hid (rdList s a most = rdMany s (n - k) a2 l) ∧ wr.ownsRow w.heap.size 49 3 v k (sgCells l) ∧ Off b w wr ∧ Rdr wr b s a2) (fun _ i _ => n - (intOf i).toNat)
    case atStart => exact ⟨0, a1, [], Nat.zero_le _, rfl, rfl, hn.2, hfin, World.ownsRow_nil _ _ _ _, ho1, hr1⟩
    case round =>
      obtain ⟨k, a2, l, hk, rfl, hlk, ha2, hR, hown, ho, hrr⟩ := hrel
      have hz := ho.size
      by_cases hlt : k < n
      · have hd : decide ((k : Int) < n) = true := by simp only [decide_eq_true_eq]; omega
        have hsg := signed_calls b s a2 wr hrr hs ha2
        cases h2 : rdSg s a2 with
        | error er =>
          have hfin2 : Hid (rdList s a most = .error er) := by
            show _ = _
            rw [hR.out, show n - k = (n - k - 1) + 1 by omega]
            simp only [rdMany, h2]
          rw [h2] at hsg
          clear h2 hR hfin
          go_wp2_with fail
          refine hsg.mono ?_
          rintro e w2 ⟨rfl, ho2⟩
          exact ⟨rfl, by unfold ReadsL; rw [hfin2.out]; exact ⟨rfl, ho.trans ho2⟩⟩
        | ok q =>
          obtain ⟨m, a3⟩ := q
          have lm := rdSg_le h2
          have hfin2 : Hid (rdList s a most = rdMany s (n - (k + 1)) a3 (l ++ [m])) := by
            show _ = _
            rw [hR.out, show n - k = (n - (k + 1)) + 1 by omega]
            simp only [rdMany, h2]
          rw [h2] at hsg
          clear h2 hR hfin
          go_wp2_with fail
          refine hsg.mono ?_
          rintro e w2 ⟨rfl, ho2, hr2⟩
          have hown2 := hown.kept ho2.by (Or.inr (fun e => by have := (hown.lt b e).1; omega))
          have hz2' := ho2.size
          unfold Sg.val
          go_wp2_with (at_builtin; refine wpList_append_own _ rfl (.tmp 11) (.tmp 14) 52 rfl w.heap.size 49 i0 (.agg #[.int .i64 0, .string ⟨#[]⟩, .string ⟨#[]⟩]) 3 40 Tryz.underlying52 hi hz0 hz1 hz2 rfl (by decide) _ _ _ rfl (hown2.alloc _) ⟨w2.heap.size, 0, none⟩ 1 1 [.int .i64 m.frm, .string m.body, .string m.sig] rfl rfl ?c1 ?c2 ?c3 ?c4 ?c5 ?_)
          case c1 =>
            intro j u hj
            rw [Addr.add_lit]
            refine (blk_new w2 w2.heap.size _ _ rfl).cell ?_
            simpa using hj
          case c2 =>
            intro u hu
            simp at hu
            rcases hu with rfl | rfl | rfl <;> rfl
          case c3 => unfold maxLen; omega
          case c4 => omega
          case c5 => simp; omega
          intro v' w3 hown' hgrow _
          go_wp2
          refine ⟨⟨k + 1, a3, l ++ [m], by omega, by go_num, by simp; omega, lm.2.1, hfin2, ?_, ?_, ?_⟩, by simp [intOf]; omega⟩
          · have e : sgCells (l ++ [m]) = sgCells l ++ [.int .i64 m.frm, .string m.body, .string m.sig] := by simp [sgCells]
            rw [e]; exact hown'
          · exact ((ho.trans ho2).alloc _).grown hgrow (fun k hk => (hown.lt k hk).1)
          · exact (hr2.alloc _).grown hgrow (fun e => by have := (hown.lt b e.symm).1; omega)
      · have hd : decide ((k : Int) < n) = false := by simp only [decide_eq_false_iff_not]; omega
        have hfin2 : Hid (rdList s a most = .ok (l, a2)) := by
          show _ = _
          rw [hR.out, show n - k = 0 by omega]; rfl
        clear hR hfin
        subst hlk
        go_wp2
        go_ret
        exact (by unfold ReadsL; rw [hfin2.out]; exact ⟨_, rfl, hown, ho, hrr⟩)
end Go.Proofs.YtocphdikppeijaaGreat
