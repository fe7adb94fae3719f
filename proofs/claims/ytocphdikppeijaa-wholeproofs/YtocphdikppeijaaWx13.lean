/- Reading messages and lists. -/
import Derived.Test.YtocphdikppeijaaWx12
namespace Go.Proofs.Ytocphdikppeijaa
open Go.RowKit
set_option linter.unusedVariables false
set_option linter.unusedSimpArgs false

/-- A message read at a place. -/
def rdSg (s : ByteArray) (a : Nat) : Except Int (Sg × Nat) :=
  match rdInt s a with
  | .error e => .error e
  | .ok (n, a1) =>
    match rdText s a1 with
    | .error e => .error e
    | .ok (t, a2) =>
      match rdText s a2 with
      | .error e => .error e
      | .ok (u, a3) => .ok (⟨n, t, u⟩, a3)

theorem Off.own {b : Nat} {x w : World} (h : Off b x w) {p : Addr} (hp : x.heap.size ≤ p.block) (u : Value) : Off b x (w.setCell p u) :=
  ⟨h.os, h.tape, h.output, by simpa [World.setCell] using h.size, fun k hk hb => (Below.heap_setCell _ _ _ _ (by omega)).trans (h.block k hk hb)⟩

set_option maxHeartbeats 1000000 in
theorem signed_calls (b : Nat) (s : ByteArray) (a : Nat) (w : World) (hr : Rdr w b s a) (hs : s.size ≤ maxLen) (ha : a ≤ s.size) :
    Calls Try.prog 49 #[.pointer (some ⟨b, 0, none⟩)] w (Reads (rdSg s a) Sg.val b s w) := by
  have hb := hr.lt
  have hn := fun wx hrx => number_calls b s a wx hrx hs ha
  have HN : Hid _ := hn
  clear hn
  unfold rdSg
  cases h1 : rdInt s a with
  | error er =>
    rw [h1] at HN
    go_enter Try.func49, Try.ntmps49
    go_wp2_with fail
    refine (HN.out _ ((hr.alloc _).alloc _)).mono ?_
    rintro e w1 ⟨rfl, ho⟩
    exact ⟨rfl, rfl, (((Off.refl b w).alloc _).alloc _).trans ho⟩
  | ok p1 =>
    obtain ⟨n, a1⟩ := p1
    have hl1 := rdInt_le h1
    rw [h1] at HN
    have ht := fun wx hrx => text_calls b s a1 wx hrx hs hl1.2.1
    have HT : Hid _ := ht
    clear h1 ht
    simp only
    cases h2 : rdText s a1 with
    | error er =>
      rw [h2] at HT
      go_enter Try.func49, Try.ntmps49
      go_wp2_with fail
      refine (HN.out _ ((hr.alloc _).alloc _)).mono ?_
      rintro e w1 ⟨rfl, ho, hr1⟩
      have hz1 := ho.size
      simp at hz1
      have c0 : w1.cell? ⟨w.heap.size + 1, 0, none⟩ = some (.int .i64 0) := by rw [ho.cell (by simp) (by simp; omega)]; simp [go_sem]
      have f0 : w1.frozen? ⟨w.heap.size + 1, 0, none⟩ = false := by rw [ho.frozen (by simp) (by simp; omega)]; simp [go_sem]
      go_wp2_with fail
      refine (HT.out _ (hr1.setOther (by simp; omega) _)).mono ?_
      rintro e w2 ⟨rfl, ho2⟩
      exact ⟨rfl, rfl, (Off.own ((((Off.refl b w).alloc _).alloc _).trans ho) (by simp) _).trans ho2⟩
    | ok p2 =>
      obtain ⟨t, a2⟩ := p2
      have hl2 := rdText_le h2
      rw [h2] at HT
      have ht := fun wx hrx => text_calls b s a2 wx hrx hs hl2.2.1
      have HU : Hid _ := ht
      clear h2 ht
      simp only
      cases h3 : rdText s a2 with
      | error er =>
        rw [h3] at HU
        go_enter Try.func49, Try.ntmps49
        go_wp2_with fail
        refine (HN.out _ ((hr.alloc _).alloc _)).mono ?_
        rintro e w1 ⟨rfl, ho, hr1⟩
        have hz1 := ho.size
        simp at hz1
        have c0 : w1.cell? ⟨w.heap.size + 1, 0, none⟩ = some (.int .i64 0) := by rw [ho.cell (by simp) (by simp; omega)]; simp [go_sem]
        have f0 : w1.frozen? ⟨w.heap.size + 1, 0, none⟩ = false := by rw [ho.frozen (by simp) (by simp; omega)]; simp [go_sem]
        have c1 : w1.cell? ⟨w.heap.size + 1, 1, none⟩ = some (.string ⟨#[]⟩) := by rw [ho.cell (by simp) (by simp; omega)]; simp [go_sem]
        have f1 : w1.frozen? ⟨w.heap.size + 1, 1, none⟩ = false := by rw [ho.frozen (by simp) (by simp; omega)]; simp [go_sem]
        have hO1 := Off.own ((((Off.refl b w).alloc (.cells #[.int .i64 0, .string ⟨#[]⟩, .string ⟨#[]⟩] 58)).alloc (.cells #[.int .i64 0, .string ⟨#[]⟩, .string ⟨#[]⟩] 58)).trans ho) (p := ⟨w.heap.size + 1, 0, none⟩) (by simp) (.int .i64 n)
        go_wp2_with fail
        refine (HT.out _ (hr1.setOther (by simp; omega) _)).mono ?_
        rintro e w2 ⟨rfl, ho2, hr2⟩
        have hz2 := ho2.size
        simp at hz2
        have d1 : w2.cell? ⟨w.heap.size + 1, 1, none⟩ = some (.string ⟨#[]⟩) := by rw [ho2.cell (by simp; omega) (by simp; omega), World.cell?_setCell_other _ _ _ _ (by simp)]; exact c1
        have g1 : w2.frozen? ⟨w.heap.size + 1, 1, none⟩ = false := by rw [ho2.frozen (by simp; omega) (by simp; omega), World.frozen?_setCell]; exact f1
        go_wp2_with fail
        refine (HU.out _ (hr2.setOther (by simp; omega) _)).mono ?_
        rintro e w3 ⟨rfl, ho3⟩
        exact ⟨rfl, rfl, (Off.own (hO1.trans ho2) (by simp) _).trans ho3⟩
      | ok p3 =>
        obtain ⟨u, a3⟩ := p3
        rw [h3] at HU
        clear h3
        go_enter Try.func49, Try.ntmps49
        go_wp2_with fail
        refine (HN.out _ ((hr.alloc _).alloc _)).mono ?_
        rintro e w1 ⟨rfl, ho, hr1⟩
        have hz1 := ho.size
        simp at hz1
        have X1 := ((blk_new (w.alloc (.cells #[.int .i64 0, .string ⟨#[]⟩, .string ⟨#[]⟩] 58)) (w.heap.size + 1) #[.int .i64 0, .string ⟨#[]⟩, .string ⟨#[]⟩] 58 (by simp))).off ho (by omega)
        have Y1 := ((blk_new w w.heap.size #[.int .i64 0, .string ⟨#[]⟩, .string ⟨#[]⟩] 58 rfl).alloc (.cells #[.int .i64 0, .string ⟨#[]⟩, .string ⟨#[]⟩] 58)).off ho (by omega)
        have hO1 := Off.own ((((Off.refl b w).alloc (.cells #[.int .i64 0, .string ⟨#[]⟩, .string ⟨#[]⟩] 58)).alloc (.cells #[.int .i64 0, .string ⟨#[]⟩, .string ⟨#[]⟩] 58)).trans ho) (p := ⟨w.heap.size + 1, 0, none⟩) (by simp) (.int .i64 n)
        have c0 := X1.cell (o := 0) rfl
        have f0 := X1.frozen (o := 0)
        go_wp2_with fail
        refine (HT.out _ (hr1.setOther (by simp; omega) _)).mono ?_
        rintro e w2 ⟨rfl, ho2, hr2⟩
        have X2 := (X1.set 0 (.int .i64 n)).off ho2 (by omega)
        have Y2 := (Y1.setOther (p := ⟨w.heap.size + 1, 0, none⟩) (by simp) (.int .i64 n)).off ho2 (by omega)
        have hO2 := Off.own (hO1.trans ho2) (p := ⟨w.heap.size + 1, 1, none⟩) (by simp) (.string t)
        simp only [List.setIfInBounds_toArray, List.set_cons_zero] at X2
        have c1 := X2.cell (o := 1) rfl
        have f1 := X2.frozen (o := 1)
        clear c0 f0
        go_wp2_with fail
        refine (HU.out _ (hr2.setOther (by simp; omega) _)).mono ?_
        rintro e w3 ⟨rfl, ho3, hr3⟩
        have X3 := (X2.set 1 (.string t)).off ho3 (by omega)
        have Y3 := (Y2.setOther (p := ⟨w.heap.size + 1, 1, none⟩) (by simp) (.string t)).off ho3 (by omega)
        have hO3 := Off.own (hO2.trans ho3) (p := ⟨w.heap.size + 1, 2, none⟩) (by simp) (.string u)
        simp only [List.setIfInBounds_toArray, List.set_cons_zero, List.set_cons_succ] at X3
        have d0 := X3.cell (o := 0) rfl
        have d1 := X3.cell (o := 1) rfl
        have d2 := X3.cell (o := 2) rfl
        have g2 := X3.frozen (o := 2)
        have y0 := Y3.cell (o := 0) rfl
        have y1 := Y3.cell (o := 1) rfl
        have y2 := Y3.cell (o := 2) rfl
        have q0 := Y3.frozen (o := 0)
        have q1 := Y3.frozen (o := 1)
        have q2 := Y3.frozen (o := 2)
        clear c1 f1
        go_wp2
        refine bodyPost_ret (v := Sg.val ⟨n, t, u⟩) (by simp [results, Try.results49, go_sem, Sg.val, y0, y1, y2]) rfl ⟨rfl, ?_, ?_⟩
        · exact Off.own (Off.own (Off.own hO3 (by simp) _) (by simp) _) (by simp) _
        · exact (((hr3.setOther (by simp; omega) _).setOther (by simp; omega) _).setOther (by simp; omega) _).setOther (by simp; omega) _

theorem rdSg_le {s : ByteArray} {a nx : Nat} {m : Sg} (h : rdSg s a = .ok (m, nx)) : a ≤ nx ∧ nx ≤ s.size ∧ m.body.size ≤ 1048576 ∧ m.sig.size ≤ 1048576 ∧ 0 ≤ m.frm ∧ m.frm ≤ 9007199254740992 := by
  unfold rdSg at h
  cases h1 : rdInt s a with
  | error e => rw [h1] at h; cases h
  | ok p =>
    obtain ⟨n, a1⟩ := p
    have l1 := rdInt_le h1
    rw [h1] at h
    simp only at h
    cases h2 : rdText s a1 with
    | error e => rw [h2] at h; cases h
    | ok p =>
      obtain ⟨t, a2⟩ := p
      have l2 := rdText_le h2
      rw [h2] at h
      simp only at h
      cases h3 : rdText s a2 with
      | error e => rw [h3] at h; cases h
      | ok p =>
        obtain ⟨u, a3⟩ := p
        have l3 := rdText_le h3
        rw [h3] at h
        simp only [Except.ok.injEq, Prod.mk.injEq] at h
        obtain ⟨rfl, rfl⟩ := h
        exact ⟨by omega, by omega, l2.2.2, l3.2.2, by simp, by simp; omega⟩

/-- So many messages, behind those that are there. -/
def rdMany (s : ByteArray) : Nat → Nat → List Sg → Except Int (List Sg × Nat)
  | 0, a, acc => .ok (acc, a)
  | k + 1, a, acc =>
    match rdSg s a with
    | .error e => .error e
    | .ok (m, a1) => rdMany s k a1 (acc ++ [m])

def rdList (s : ByteArray) (a most : Nat) : Except Int (List Sg × Nat) :=
  match rdCount s a most with
  | .error e => .error e
  | .ok (n, a1) => rdMany s n a1 []

def sgCells (l : List Sg) : List Value := l.flatMap fun m => [.int .i64 m.frm, .string m.body, .string m.sig]

theorem sgCells_len (l : List Sg) : (sgCells l).length = l.length * 3 := by
  induction l with
  | nil => rfl
  | cons m l ih =>
    have e : sgCells (m :: l) = [.int .i64 m.frm, .string m.body, .string m.sig] ++ sgCells l := by simp [sgCells]
    rw [e, List.length_append, ih, List.length_cons]; simp; omega

theorem sgCells_at (l : List Sg) (i : Nat) (h : i < l.length) : (sgCells l)[i * 3]? = some (.int .i64 l[i].frm) ∧ (sgCells l)[i * 3 + 1]? = some (.string l[i].body) ∧ (sgCells l)[i * 3 + 2]? = some (.string l[i].sig) := by
  induction l generalizing i with
  | nil => simp at h
  | cons m l ih =>
    have e : sgCells (m :: l) = .int .i64 m.frm :: .string m.body :: .string m.sig :: sgCells l := by simp [sgCells]
    rw [e]
    cases i with
    | zero => simp
    | succ i =>
      have h' : i < l.length := by simpa using h
      have e1 : (i + 1) * 3 = i * 3 + 3 := by omega
      rw [e1]
      simpa using ih i h'

/-- The messages that a row of one's own holds. -/
theorem sgs_of_own {w : World} {base : Nat} {v : Value} {l : List Sg} (h : w.ownsRow base 58 3 v l.length (sgCells l)) (hl : ∀ m ∈ l, m.body.size ≤ maxLen ∧ m.sig.size ≤ maxLen) : Sgs w v l := by
  obtain ⟨h1, h2⟩ := id h
  rcases h2 with ⟨rfl, h3⟩ | ⟨g, cap, cur, rfl, h3⟩
  · exact Or.inl ⟨⟨_, _, rfl⟩, List.eq_nil_of_length_eq_zero h3⟩
  · refine Or.inr ⟨g, 0, cap, rfl, fun i hi => ?_⟩
    obtain ⟨c0, c1, c2⟩ := sgCells_at l i hi
    have d0 := h.cells rfl _ _ c0
    have d1 := h.cells rfl _ _ c1
    have d2 := h.cells rfl _ _ c2
    obtain ⟨z1, z2⟩ := hl l[i] (List.getElem_mem hi)
    rw [Addr.add_lit] at d0 d1 d2
    exact ⟨d0, d1, d2, z1, z2⟩

theorem infoSigned : (Try.prog.info? 58).map (fun i => (i.zero, i.size, i.bytes)) = some (some (.agg #[.int .i64 0, .string ⟨#[]⟩, .string ⟨#[]⟩]), 3, 40) := by kernel_rfl
theorem Off.grown {b : Nat} {x w w' : World} {row : Option Nat} (h : Off b x w) (hg : w.grownBy w' row) (hr : ∀ k, row = some k → x.heap.size ≤ k) : Off b x w' :=
  ⟨hg.os.trans h.os, hg.tape.trans h.tape, hg.output.trans h.output, Nat.le_trans h.size hg.size, fun k hk hb => (hg.block k (Nat.lt_of_lt_of_le hk h.size) (fun e => by have := hr k e.symm; omega)).trans (h.block k hk hb)⟩
theorem Off.by {b : Nat} {w w' : World} (h : Off b w w') : w.grownBy w' (some b) := ⟨h.os, h.tape, h.output, h.size, fun k hk hn => h.block k hk (fun e => hn (by rw [e]))⟩
end Go.Proofs.Ytocphdikppeijaa
