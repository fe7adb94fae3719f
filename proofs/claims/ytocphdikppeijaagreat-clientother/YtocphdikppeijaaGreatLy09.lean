/- Reading bodies. -/
import Derived.Test.YtocphdikppeijaaGreatLy08
namespace Go.Proofs.YtocphdikppeijaaGreat
open Go.RowKit
set_option linter.unusedVariables false
set_option linter.unusedSimpArgs false

def rdBd7 (s : ByteArray) (k v q c t : Nat) (d x : ByteArray) (a : Nat) : Except Int (Bd × Nat) :=
  match rdList s a 64 with
  | .error e => .error e
  | .ok (l, nx) => .ok (⟨k, v, q, c, t, d, x, l⟩, nx)
def rdBd6 (s : ByteArray) (k v q c t : Nat) (d : ByteArray) (a : Nat) : Except Int (Bd × Nat) :=
  match rdText s a with
  | .error e => .error e
  | .ok (x, nx) => rdBd7 s k v q c t d x nx
def rdBd5 (s : ByteArray) (k v q c t : Nat) (a : Nat) : Except Int (Bd × Nat) :=
  match rdText s a with
  | .error e => .error e
  | .ok (d, nx) => rdBd6 s k v q c t d nx
def rdBd4 (s : ByteArray) (k v q c : Nat) (a : Nat) : Except Int (Bd × Nat) :=
  match rdInt s a with
  | .error e => .error e
  | .ok (t, nx) => rdBd5 s k v q c t nx
def rdBd3 (s : ByteArray) (k v q : Nat) (a : Nat) : Except Int (Bd × Nat) :=
  match rdInt s a with
  | .error e => .error e
  | .ok (c, nx) => rdBd4 s k v q c nx
def rdBd2 (s : ByteArray) (k v : Nat) (a : Nat) : Except Int (Bd × Nat) :=
  match rdInt s a with
  | .error e => .error e
  | .ok (q, nx) => rdBd3 s k v q nx
def rdBd1 (s : ByteArray) (k : Nat) (a : Nat) : Except Int (Bd × Nat) :=
  match rdInt s a with
  | .error e => .error e
  | .ok (v, nx) => rdBd2 s k v nx
def rdBd (s : ByteArray) (a : Nat) : Except Int (Bd × Nat) :=
  match rdInt s a with
  | .error e => .error e
  | .ok (k, nx) => rdBd1 s k nx

/-- What reading a body gives. -/
def ReadsB (r : Except Int (Bd × Nat)) (b : Nat) (s : ByteArray) (w : World) (e : Ending) (w' : World) : Prop :=
  match r with
  | .ok (bd, nx) => ∃ lv, e = .returned (bd.val lv) ∧ w'.ownsRow w.heap.size 49 3 lv bd.list.length (sgCells bd.list) ∧ Off b w w' ∧ Rdr w' b s nx
  | .error er => e = .panicked (gu er) ∧ Off b w w'

theorem sgs_of_own' {w : World} {base n : Nat} {v : Value} {xs : List Value} (h : w.ownsRow base 49 3 v n xs) : ∃ p c, v = .slice p n c := by
  rcases h.2 with ⟨rfl, rfl⟩ | ⟨g, cap, cur, rfl, _⟩
  · exact ⟨none, 0, rfl⟩
  · exact ⟨_, _, rfl⟩

theorem ownsRow_weak {w : World} {base base' : Nat} {e : TypeId} {size : Nat} {v : Value} {n : Nat} {xs : List Value} (h : w.ownsRow base e size v n xs) (hb : base' ≤ base) : w.ownsRow base' e size v n xs := by
  obtain ⟨h1, h2⟩ := h
  refine ⟨h1, ?_⟩
  rcases h2 with h2 | ⟨g, cap, cur, hv, hg, r⟩
  · exact Or.inl h2
  · exact Or.inr ⟨g, cap, cur, hv, Nat.le_trans hb hg, r⟩

set_option maxHeartbeats 2000000 in
theorem body_calls (b : Nat) (s : ByteArray) (a0 : Nat) (w : World) (hr : Rdr w b s a0) (hs : s.size ≤ maxLen) (l0 : a0 ≤ s.size) :
    Calls Tryz.prog 119 #[.pointer (some ⟨b, 0, none⟩)] w (ReadsB (rdBd s a0) b s w) := by
  have hb := hr.lt
  have X0 := blk_new (w.alloc (.cells #[.int .i64 0, .int .i64 0, .int .i64 0, .int .i64 0, .int .i64 0, .string ⟨#[]⟩, .string ⟨#[]⟩, .slice none 0 0] 54)) (w.heap.size + 1) #[.int .i64 0, .int .i64 0, .int .i64 0, .int .i64 0, .int .i64 0, .string ⟨#[]⟩, .string ⟨#[]⟩, .slice none 0 0] 54 (by simp)
  have Y0 := (blk_new w w.heap.size #[.int .i64 0, .int .i64 0, .int .i64 0, .int .i64 0, .int .i64 0, .string ⟨#[]⟩, .string ⟨#[]⟩, .slice none 0 0] 54 rfl).alloc (.cells #[.int .i64 0, .int .i64 0, .int .i64 0, .int .i64 0, .int .i64 0, .string ⟨#[]⟩, .string ⟨#[]⟩, .slice none 0 0] 54)
  have O0 : Off b w ((w.alloc (.cells #[.int .i64 0, .int .i64 0, .int .i64 0, .int .i64 0, .int .i64 0, .string ⟨#[]⟩, .string ⟨#[]⟩, .slice none 0 0] 54)).alloc (.cells #[.int .i64 0, .int .i64 0, .int .i64 0, .int .i64 0, .int .i64 0, .string ⟨#[]⟩, .string ⟨#[]⟩, .slice none 0 0] 54)) := ((Off.refl b w).alloc _).alloc _
  have R0 := (hr.alloc (.cells #[.int .i64 0, .int .i64 0, .int .i64 0, .int .i64 0, .int .i64 0, .string ⟨#[]⟩, .string ⟨#[]⟩, .slice none 0 0] 54)).alloc (.cells #[.int .i64 0, .int .i64 0, .int .i64 0, .int .i64 0, .int .i64 0, .string ⟨#[]⟩, .string ⟨#[]⟩, .slice none 0 0] 54)
  have S0 : w.heap.size + 2 ≤ ((w.alloc (.cells #[.int .i64 0, .int .i64 0, .int .i64 0, .int .i64 0, .int .i64 0, .string ⟨#[]⟩, .string ⟨#[]⟩, .slice none 0 0] 54)).alloc (.cells #[.int .i64 0, .int .i64 0, .int .i64 0, .int .i64 0, .int .i64 0, .string ⟨#[]⟩, .string ⟨#[]⟩, .slice none 0 0] 54)).heap.size := by simp
  go_enter Tryz.func119, Tryz.ntmps119
  go_wp2_with fail
  refine (number_calls b s a0 _ R0 hs l0).mono ?_
  cases h0 : rdInt s a0 with
  | error er =>
    have hfin : Hid (rdBd s a0 = .error er) := by show _ = _; unfold rdBd; rw [h0]
    rintro e w1 ⟨rfl, ho⟩
    exact ⟨rfl, by unfold ReadsB; rw [hfin.out]; exact ⟨rfl, O0.trans ho⟩⟩
  | ok p =>
  obtain ⟨k, a1⟩ := p
  have l1 := (rdInt_le h0).2.1
  have hR1 : Hid (rdBd s a0 = rdBd1 s k a1) := by show _ = _; unfold rdBd; rw [h0]
  clear h0
  rintro e w1 ⟨rfl, ho1, R⟩
  have X := X0.off ho1 (by omega)
  have Y := Y0.off ho1 (by omega)
  have O := O0.trans ho1
  have S := Nat.le_trans S0 ho1.size
  have cc := X.cell (o := 0) rfl
  have ff := X.frozen (o := 0)
  have R1 := R.setOther (p := ⟨w.heap.size + 1, 0, none⟩) (by simp; omega) (.int .i64 k)
  have O1 := Off.own O (p := ⟨w.heap.size + 1, 0, none⟩) (by simp) (.int .i64 k)
  have X1 : Blk _ _ #[.int .i64 k, .int .i64 0, .int .i64 0, .int .i64 0, .int .i64 0, .string ⟨#[]⟩, .string ⟨#[]⟩, .slice none 0 0] _ := X.set 0 (.int .i64 k)
  have Y1 := Y.setOther (p := ⟨w.heap.size + 1, 0, none⟩) (by simp) (.int .i64 k)
  have S1 : w.heap.size + 2 ≤ (w1.setCell ⟨w.heap.size + 1, 0, none⟩ (.int .i64 k)).heap.size := by simpa [World.setCell] using S
  clear X Y O R S X0 Y0 O0 R0 S0 ho1
  go_wp2_with fail
  clear cc ff
  refine (number_calls b s a1 _ R1 hs l1).mono ?_
  cases h1 : rdInt s a1 with
  | error er =>
    have hfin : Hid (rdBd s a0 = .error er) := by show _ = _; rw [hR1.out]; unfold rdBd1; rw [h1]
    rintro e w2 ⟨rfl, ho⟩
    exact ⟨rfl, by unfold ReadsB; rw [hfin.out]; exact ⟨rfl, O1.trans ho⟩⟩
  | ok p =>
  obtain ⟨v, a2⟩ := p
  have l2 := (rdInt_le h1).2.1
  have hR2 : Hid (rdBd s a0 = rdBd2 s k v a2) := by show _ = _; rw [hR1.out]; unfold rdBd1; rw [h1]
  clear h1
  rintro e w2 ⟨rfl, ho2, R⟩
  have X := X1.off ho2 (by omega)
  have Y := Y1.off ho2 (by omega)
  have O := O1.trans ho2
  have S := Nat.le_trans S1 ho2.size
  have cc := X.cell (o := 1) rfl
  have ff := X.frozen (o := 1)
  have R2 := R.setOther (p := ⟨w.heap.size + 1, 1, none⟩) (by simp; omega) (.int .i64 v)
  have O2 := Off.own O (p := ⟨w.heap.size + 1, 1, none⟩) (by simp) (.int .i64 v)
  have X2 : Blk _ _ #[.int .i64 k, .int .i64 v, .int .i64 0, .int .i64 0, .int .i64 0, .string ⟨#[]⟩, .string ⟨#[]⟩, .slice none 0 0] _ := X.set 1 (.int .i64 v)
  have Y2 := Y.setOther (p := ⟨w.heap.size + 1, 1, none⟩) (by simp) (.int .i64 v)
  have S2 : w.heap.size + 2 ≤ (w2.setCell ⟨w.heap.size + 1, 1, none⟩ (.int .i64 v)).heap.size := by simpa [World.setCell] using S
  clear X Y O R S X1 Y1 O1 R1 S1 ho2 hR1
  go_wp2_with fail
  clear cc ff
  refine (number_calls b s a2 _ R2 hs l2).mono ?_
  cases h2 : rdInt s a2 with
  | error er =>
    have hfin : Hid (rdBd s a0 = .error er) := by show _ = _; rw [hR2.out]; unfold rdBd2; rw [h2]
    rintro e w3 ⟨rfl, ho⟩
    exact ⟨rfl, by unfold ReadsB; rw [hfin.out]; exact ⟨rfl, O2.trans ho⟩⟩
  | ok p =>
  obtain ⟨q, a3⟩ := p
  have l3 := (rdInt_le h2).2.1
  have hR3 : Hid (rdBd s a0 = rdBd3 s k v q a3) := by show _ = _; rw [hR2.out]; unfold rdBd2; rw [h2]
  clear h2
  rintro e w3 ⟨rfl, ho3, R⟩
  have X := X2.off ho3 (by omega)
  have Y := Y2.off ho3 (by omega)
  have O := O2.trans ho3
  have S := Nat.le_trans S2 ho3.size
  have cc := X.cell (o := 2) rfl
  have ff := X.frozen (o := 2)
  have R3 := R.setOther (p := ⟨w.heap.size + 1, 2, none⟩) (by simp; omega) (.int .i64 q)
  have O3 := Off.own O (p := ⟨w.heap.size + 1, 2, none⟩) (by simp) (.int .i64 q)
  have X3 : Blk _ _ #[.int .i64 k, .int .i64 v, .int .i64 q, .int .i64 0, .int .i64 0, .string ⟨#[]⟩, .string ⟨#[]⟩, .slice none 0 0] _ := X.set 2 (.int .i64 q)
  have Y3 := Y.setOther (p := ⟨w.heap.size + 1, 2, none⟩) (by simp) (.int .i64 q)
  have S3 : w.heap.size + 2 ≤ (w3.setCell ⟨w.heap.size + 1, 2, none⟩ (.int .i64 q)).heap.size := by simpa [World.setCell] using S
  clear X Y O R S X2 Y2 O2 R2 S2 ho3 hR2
  go_wp2_with fail
  clear cc ff
  refine (number_calls b s a3 _ R3 hs l3).mono ?_
  cases h3 : rdInt s a3 with
  | error er =>
    have hfin : Hid (rdBd s a0 = .error er) := by show _ = _; rw [hR3.out]; unfold rdBd3; rw [h3]
    rintro e w4 ⟨rfl, ho⟩
    exact ⟨rfl, by unfold ReadsB; rw [hfin.out]; exact ⟨rfl, O3.trans ho⟩⟩
  | ok p =>
  obtain ⟨c, a4⟩ := p
  have l4 := (rdInt_le h3).2.1
  have hR4 : Hid (rdBd s a0 = rdBd4 s k v q c a4) := by show _ = _; rw [hR3.out]; unfold rdBd3; rw [h3]
  clear h3
  rintro e w4 ⟨rfl, ho4, R⟩
  have X := X3.off ho4 (by omega)
  have Y := Y3.off ho4 (by omega)
  have O := O3.trans ho4
  have S := Nat.le_trans S3 ho4.size
  have cc := X.cell (o := 3) rfl
  have ff := X.frozen (o := 3)
  have R4 := R.setOther (p := ⟨w.heap.size + 1, 3, none⟩) (by simp; omega) (.int .i64 c)
  have O4 := Off.own O (p := ⟨w.heap.size + 1, 3, none⟩) (by simp) (.int .i64 c)
  have X4 : Blk _ _ #[.int .i64 k, .int .i64 v, .int .i64 q, .int .i64 c, .int .i64 0, .string ⟨#[]⟩, .string ⟨#[]⟩, .slice none 0 0] _ := X.set 3 (.int .i64 c)
  have Y4 := Y.setOther (p := ⟨w.heap.size + 1, 3, none⟩) (by simp) (.int .i64 c)
  have S4 : w.heap.size + 2 ≤ (w4.setCell ⟨w.heap.size + 1, 3, none⟩ (.int .i64 c)).heap.size := by simpa [World.setCell] using S
  clear X Y O R S X3 Y3 O3 R3 S3 ho4 hR3
  go_wp2_with fail
  clear cc ff
  refine (number_calls b s a4 _ R4 hs l4).mono ?_
  cases h4 : rdInt s a4 with
  | error er =>
    have hfin : Hid (rdBd s a0 = .error er) := by show _ = _; rw [hR4.out]; unfold rdBd4; rw [h4]
    rintro e w5 ⟨rfl, ho⟩
    exact ⟨rfl, by unfold ReadsB; rw [hfin.out]; exact ⟨rfl, O4.trans ho⟩⟩
  | ok p =>
  obtain ⟨t, a5⟩ := p
  have l5 := (rdInt_le h4).2.1
  have hR5 : Hid (rdBd s a0 = rdBd5 s k v q c t a5) := by show _ = _; rw [hR4.out]; unfold rdBd4; rw [h4]
  clear h4
  rintro e w5 ⟨rfl, ho5, R⟩
  have X := X4.off ho5 (by omega)
  have Y := Y4.off ho5 (by omega)
  have O := O4.trans ho5
  have S := Nat.le_trans S4 ho5.size
  have cc := X.cell (o := 4) rfl
  have ff := X.frozen (o := 4)
  have R5 := R.setOther (p := ⟨w.heap.size + 1, 4, none⟩) (by simp; omega) (.int .i64 t)
  have O5 := Off.own O (p := ⟨w.heap.size + 1, 4, none⟩) (by simp) (.int .i64 t)
  have X5 : Blk _ _ #[.int .i64 k, .int .i64 v, .int .i64 q, .int .i64 c, .int .i64 t, .string ⟨#[]⟩, .string ⟨#[]⟩, .slice none 0 0] _ := X.set 4 (.int .i64 t)
  have Y5 := Y.setOther (p := ⟨w.heap.size + 1, 4, none⟩) (by simp) (.int .i64 t)
  have S5 : w.heap.size + 2 ≤ (w5.setCell ⟨w.heap.size + 1, 4, none⟩ (.int .i64 t)).heap.size := by simpa [World.setCell] using S
  clear X Y O R S X4 Y4 O4 R4 S4 ho5 hR4
  go_wp2_with fail
  clear cc ff
  refine (text_calls b s a5 _ R5 hs l5).mono ?_
  cases h5 : rdText s a5 with
  | error er =>
    have hfin : Hid (rdBd s a0 = .error er) := by show _ = _; rw [hR5.out]; unfold rdBd5; rw [h5]
    rintro e w6 ⟨rfl, ho⟩
    exact ⟨rfl, by unfold ReadsB; rw [hfin.out]; exact ⟨rfl, O5.trans ho⟩⟩
  | ok p =>
  obtain ⟨d, a6⟩ := p
  have l6 := (rdText_le h5).2.1
  have hR6 : Hid (rdBd s a0 = rdBd6 s k v q c t d a6) := by show _ = _; rw [hR5.out]; unfold rdBd5; rw [h5]
  clear h5
  rintro e w6 ⟨rfl, ho6, R⟩
  have X := X5.off ho6 (by omega)
  have Y := Y5.off ho6 (by omega)
  have O := O5.trans ho6
  have S := Nat.le_trans S5 ho6.size
  have cc := X.cell (o := 5) rfl
  have ff := X.frozen (o := 5)
  have R6 := R.setOther (p := ⟨w.heap.size + 1, 5, none⟩) (by simp; omega) (.string d)
  have O6 := Off.own O (p := ⟨w.heap.size + 1, 5, none⟩) (by simp) (.string d)
  have X6 : Blk _ _ #[.int .i64 k, .int .i64 v, .int .i64 q, .int .i64 c, .int .i64 t, .string d, .string ⟨#[]⟩, .slice none 0 0] _ := X.set 5 (.string d)
  have Y6 := Y.setOther (p := ⟨w.heap.size + 1, 5, none⟩) (by simp) (.string d)
  have S6 : w.heap.size + 2 ≤ (w6.setCell ⟨w.heap.size + 1, 5, none⟩ (.string d)).heap.size := by simpa [World.setCell] using S
  clear X Y O R S X5 Y5 O5 R5 S5 ho6 hR5
  go_wp2_with fail
  clear cc ff
  refine (text_calls b s a6 _ R6 hs l6).mono ?_
  cases h6 : rdText s a6 with
  | error er =>
    have hfin : Hid (rdBd s a0 = .error er) := by show _ = _; rw [hR6.out]; unfold rdBd6; rw [h6]
    rintro e w7 ⟨rfl, ho⟩
    exact ⟨rfl, by unfold ReadsB; rw [hfin.out]; exact ⟨rfl, O6.trans ho⟩⟩
  | ok p =>
  obtain ⟨x, a7⟩ := p
  have l7 := (rdText_le h6).2.1
  have hR7 : Hid (rdBd s a0 = rdBd7 s k v q c t d x a7) := by show _ = _; rw [hR6.out]; unfold rdBd6; rw [h6]
  clear h6
  rintro e w7 ⟨rfl, ho7, R⟩
  have X := X6.off ho7 (by omega)
  have Y := Y6.off ho7 (by omega)
  have O := O6.trans ho7
  have S := Nat.le_trans S6 ho7.size
  have cc := X.cell (o := 6) rfl
  have ff := X.frozen (o := 6)
  have R7 := R.setOther (p := ⟨w.heap.size + 1, 6, none⟩) (by simp; omega) (.string x)
  have O7 := Off.own O (p := ⟨w.heap.size + 1, 6, none⟩) (by simp) (.string x)
  have X7 : Blk _ _ #[.int .i64 k, .int .i64 v, .int .i64 q, .int .i64 c, .int .i64 t, .string d, .string x, .slice none 0 0] _ := X.set 6 (.string x)
  have Y7 := Y.setOther (p := ⟨w.heap.size + 1, 6, none⟩) (by simp) (.string x)
  have S7 : w.heap.size + 2 ≤ (w7.setCell ⟨w.heap.size + 1, 6, none⟩ (.string x)).heap.size := by simpa [World.setCell] using S
  clear X Y O R S X6 Y6 O6 R6 S6 ho7 hR6
  go_wp2_with fail
  clear cc ff
  refine (list_calls b s a7 64 _ R7 hs l7 (by decide)).mono ?_
  cases h7 : rdList s a7 64 with
  | error er =>
    have hfin : Hid (rdBd s a0 = .error er) := by show _ = _; rw [hR7.out]; unfold rdBd7; rw [h7]
    rintro e w8 ⟨rfl, ho⟩
    exact ⟨rfl, by unfold ReadsB; rw [hfin.out]; exact ⟨rfl, O7.trans ho⟩⟩
  | ok p =>
  obtain ⟨l, a8⟩ := p
  have hR8 : Hid (rdBd s a0 = .ok (⟨k, v, q, c, t, d, x, l⟩, a8)) := by show _ = _; rw [hR7.out]; unfold rdBd7; rw [h7]
  clear h7
  rintro e w8 ⟨lv, rfl, hown, ho8, R⟩
  have X := X7.off ho8 (by omega)
  have Y := Y7.off ho8 (by omega)
  have O := O7.trans ho8
  have S := Nat.le_trans S7 ho8.size
  have cc := X.cell (o := 7) rfl
  have ff := X.frozen (o := 7)
  have d0 := X.cell (o := 0) rfl
  have d1 := X.cell (o := 1) rfl
  have d2 := X.cell (o := 2) rfl
  have d3 := X.cell (o := 3) rfl
  have d4 := X.cell (o := 4) rfl
  have d5 := X.cell (o := 5) rfl
  have d6 := X.cell (o := 6) rfl
  have y0 := Y.cell (o := 0) rfl
  have z0 := Y.frozen (o := 0)
  have y1 := Y.cell (o := 1) rfl
  have z1 := Y.frozen (o := 1)
  have y2 := Y.cell (o := 2) rfl
  have z2 := Y.frozen (o := 2)
  have y3 := Y.cell (o := 3) rfl
  have z3 := Y.frozen (o := 3)
  have y4 := Y.cell (o := 4) rfl
  have z4 := Y.frozen (o := 4)
  have y5 := Y.cell (o := 5) rfl
  have z5 := Y.frozen (o := 5)
  have y6 := Y.cell (o := 6) rfl
  have z6 := Y.frozen (o := 6)
  have y7 := Y.cell (o := 7) rfl
  have z7 := Y.frozen (o := 7)
  have hlv : ∃ pp cp, lv = .slice pp l.length cp := (sgs_of_own' hown)
  obtain ⟨pp, cp, rfl⟩ := hlv
  have S7' := S7
  clear X7 Y7 O7 R7 S7 ho8 hR7
  have hsz : w.heap.size + 2 ≤ (w7.setCell ⟨w.heap.size + 1, 6, none⟩ (.string x)).heap.size := S7'
  go_wp2
  refine bodyPost_ret (v := Bd.val ⟨k, v, q, c, t, d, x, l⟩ (.slice pp l.length cp)) (by simp [results, Tryz.results119, go_sem, Bd.val, y0, y1, y2, y3, y4, y5, y6, y7]) rfl ?_
  unfold ReadsB
  rw [hR8.out]
  exact ⟨_, rfl, ownsRow_weak (ownsRow_setCell_below (ownsRow_setCell_below (ownsRow_setCell_below (ownsRow_setCell_below (ownsRow_setCell_below (ownsRow_setCell_below (ownsRow_setCell_below (ownsRow_setCell_below (ownsRow_setCell_below hown (a := ⟨w.heap.size + 1, 7, none⟩) (Nat.lt_of_lt_of_le (by simp) hsz) _) (a := ⟨w.heap.size, 0, none⟩) (Nat.lt_of_lt_of_le (by simp) hsz) _) (a := ⟨w.heap.size, 1, none⟩) (Nat.lt_of_lt_of_le (by simp) hsz) _) (a := ⟨w.heap.size, 2, none⟩) (Nat.lt_of_lt_of_le (by simp) hsz) _) (a := ⟨w.heap.size, 3, none⟩) (Nat.lt_of_lt_of_le (by simp) hsz) _) (a := ⟨w.heap.size, 4, none⟩) (Nat.lt_of_lt_of_le (by simp) hsz) _) (a := ⟨w.heap.size, 5, none⟩) (Nat.lt_of_lt_of_le (by simp) hsz) _) (a := ⟨w.heap.size, 6, none⟩) (Nat.lt_of_lt_of_le (by simp) hsz) _) (a := ⟨w.heap.size, 7, none⟩) (Nat.lt_of_lt_of_le (by simp) hsz) _) (by omega), (Off.own (Off.own (Off.own (Off.own (Off.own (Off.own (Off.own (Off.own (Off.own O (p := ⟨w.heap.size + 1, 7, none⟩) (by simp) _) (p := ⟨w.heap.size, 0, none⟩) (by simp) _) (p := ⟨w.heap.size, 1, none⟩) (by simp) _) (p := ⟨w.heap.size, 2, none⟩) (by simp) _) (p := ⟨w.heap.size, 3, none⟩) (by simp) _) (p := ⟨w.heap.size, 4, none⟩) (by simp) _) (p := ⟨w.heap.size, 5, none⟩) (by simp) _) (p := ⟨w.heap.size, 6, none⟩) (by simp) _) (p := ⟨w.heap.size, 7, none⟩) (by simp) _), (((((((((R.setOther (p := ⟨w.heap.size + 1, 7, none⟩) (by simp; omega) _).setOther (p := ⟨w.heap.size, 0, none⟩) (by simp; omega) _).setOther (p := ⟨w.heap.size, 1, none⟩) (by simp; omega) _).setOther (p := ⟨w.heap.size, 2, none⟩) (by simp; omega) _).setOther (p := ⟨w.heap.size, 3, none⟩) (by simp; omega) _).setOther (p := ⟨w.heap.size, 4, none⟩) (by simp; omega) _).setOther (p := ⟨w.heap.size, 5, none⟩) (by simp; omega) _).setOther (p := ⟨w.heap.size, 6, none⟩) (by simp; omega) _).setOther (p := ⟨w.heap.size, 7, none⟩) (by simp; omega) _)⟩

/-- What was read lies within its bounds. -/
theorem rdBd_le {s : ByteArray} {nx : Nat} {bd : Bd} (h : rdBd s 0 = .ok (bd, nx)) : nx ≤ s.size ∧ bd.digest.size ≤ 1048576 ∧ bd.text.size ≤ 1048576 ∧ bd.list.length ≤ 64 ∧ ∀ m ∈ bd.list, m.body.size ≤ 1048576 ∧ m.sig.size ≤ 1048576 := by
  unfold rdBd at h
  cases h0 : rdInt s 0 with
  | error e => rw [h0] at h; cases h
  | ok p =>
  obtain ⟨k, a1⟩ := p
  have l0 := rdInt_le h0
  rw [h0] at h
  simp only [rdBd1] at h
  cases h1 : rdInt s a1 with
  | error e => rw [h1] at h; cases h
  | ok p =>
  obtain ⟨v, a2⟩ := p
  have l1 := rdInt_le h1
  rw [h1] at h
  simp only [rdBd2] at h
  cases h2 : rdInt s a2 with
  | error e => rw [h2] at h; cases h
  | ok p =>
  obtain ⟨q, a3⟩ := p
  have l2 := rdInt_le h2
  rw [h2] at h
  simp only [rdBd3] at h
  cases h3 : rdInt s a3 with
  | error e => rw [h3] at h; cases h
  | ok p =>
  obtain ⟨c, a4⟩ := p
  have l3 := rdInt_le h3
  rw [h3] at h
  simp only [rdBd4] at h
  cases h4 : rdInt s a4 with
  | error e => rw [h4] at h; cases h
  | ok p =>
  obtain ⟨t, a5⟩ := p
  have l4 := rdInt_le h4
  rw [h4] at h
  simp only [rdBd5] at h
  cases h5 : rdText s a5 with
  | error e => rw [h5] at h; cases h
  | ok p =>
  obtain ⟨d, a6⟩ := p
  have l5 := rdText_le h5
  rw [h5] at h
  simp only [rdBd6] at h
  cases h6 : rdText s a6 with
  | error e => rw [h6] at h; cases h
  | ok p =>
  obtain ⟨x, a7⟩ := p
  have l6 := rdText_le h6
  rw [h6] at h
  simp only [rdBd7] at h
  cases h7 : rdList s a7 64 with
  | error e => rw [h7] at h; cases h
  | ok p =>
  obtain ⟨l, a8⟩ := p
  have l7 := rdList_le h7
  rw [h7] at h
  simp only [Except.ok.injEq, Prod.mk.injEq] at h
  obtain ⟨rfl, rfl⟩ := h
  exact ⟨l7.2.1, l5.2.2, l6.2.2, l7.2.2.1, l7.2.2.2⟩
end Go.Proofs.YtocphdikppeijaaGreat
