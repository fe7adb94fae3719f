/- Which consortiums may be; a book that there is; a new client. -/
import Derived.Test.YtocphdikppeijaaGreatLy15
import Derived.Test.YtocphdikppeijaaGreatLy16
import Derived.Test.YtocphdikppeijaaGreatLy42
import Derived.Outline
namespace Go.Proofs.YtocphdikppeijaaGreat
open Go.RowKit
set_option linter.unusedSimpArgs false
set_option linter.unusedVariables false

theorem chainC {w w1 w2 : World} (h : Below w.heap.size w w1) (k : Below w1.heap.size w1 w2) : Below w.heap.size w w2 := h.trans (k.mono h.size)
variable {p b x y : Nat} {T : List ByteArray} {S : List (Int × ByteArray)}
def zB8C : Array Value := #[.int .i64 0, .int .i64 0, .int .i64 0, .int .i64 0, .int .i64 0, .string ⟨#[]⟩, .string ⟨#[]⟩, .slice none 0 0]
theorem openNC_results {w' : World} {r : Nat} {v : Value} (X : Blk w' r zB8C 54) {t : Array Value} (h1 : t.getD 4 undef = .pointer (some ⟨r, 0, none⟩)) (h2 : t.getD 5 undef = v) :
    (results Tryz.f60 t).run Tryz.prog w' = .ok (.tuple #[.agg zB8C, v]) w' := by
  have a0 := X.cell (o := 0) rfl
  have a1 := X.cell (o := 1) rfl
  have a2 := X.cell (o := 2) rfl
  have a3 := X.cell (o := 3) rfl
  have a4 := X.cell (o := 4) rfl
  have a5 := X.cell (o := 5) rfl
  have a6 := X.cell (o := 6) rfl
  have a7 := X.cell (o := 7) rfl
  simp only [Array.getD_eq_getD_getElem?] at h1 h2
  simp [results, Tryz.results60, go_sem, h1, h2, a0, a1, a2, a3, a4, a5, a6, a7, zB8C]
theorem infoB8C : (Tryz.prog.info? 54).map (·.size) = some zB8C.size := by kernel_rfl

theorem zB8C_one : zB8C.all (·.oneCell') = true := by simp [zB8C, Value.oneCell']
theorem zB8C_same : zB8C.size = zB8C.size := rfl
set_option maxHeartbeats 1000000 in
set_option maxRecDepth 100000 in
theorem openC_nobody (w : World) (h : Book w p b x y T S) (hS : S.length < 1000000) :
    Calls Tryz.prog 60 #[.pointer (some ⟨p, 0, none⟩), .agg #[.int .i64 (-1), .string ⟨#[]⟩, .string ⟨#[]⟩]] w fun e w' => e = .returned (.tuple #[.agg zB8C, .int .i64 30]) ∧ Below w.heap.size w w' := by
  obtain ⟨W1, hW1, XM, XR, B1, Z1⟩ : ∃ W1, ((w.alloc (.cells #[.int .i64 (-1), .string ⟨#[]⟩, .string ⟨#[]⟩] 49)).alloc (.cells #[.int .i64 0, .int .i64 0, .int .i64 0, .int .i64 0, .int .i64 0, .string ⟨#[]⟩, .string ⟨#[]⟩, .slice none 0 0] 54)) = W1 ∧ Blk W1 w.heap.size #[.int .i64 (-1), .string ⟨#[]⟩, .string ⟨#[]⟩] 49 ∧ Blk W1 (w.heap.size + 1) zB8C 54 ∧ Below w.heap.size w W1 ∧ W1.heap.size = w.heap.size + 2 :=
    ⟨_, rfl, (blk_new _ _ _ _ rfl).alloc _, blk_new _ _ _ _ (by simp), by go_grown, by simp⟩
  have h1 := h.below B1
  have hm := made_calls W1 h1
  have hc := bookCheck_calls (-1) ⟨#[]⟩ ⟨#[]⟩ W1 h1 hS
  have hk : chkB S (-1) ⟨#[]⟩ ⟨#[]⟩ = false := rfl
  rw [hk] at hc
  have e0 : W1.cell? ⟨w.heap.size, 0, none⟩ = some (.int .i64 (-1)) := XM.cell rfl
  have e1 : W1.cell? ⟨w.heap.size, 1, none⟩ = some (.string ⟨#[]⟩) := XM.cell rfl
  have e2 : W1.cell? ⟨w.heap.size, 2, none⟩ = some (.string ⟨#[]⟩) := XM.cell rfl
  go_enter Tryz.func60, Tryz.ntmps60
  go_wp2_with fail
  refine hm.mono ?_
  rintro e w1 ⟨rfl, rfl⟩
  go_wp2_with fail
  refine hc.mono ?_
  rintro e w2 ⟨rfl, hb2⟩
  have X2 := XR.below hb2
  obtain ⟨W3, hW3, X3, _⟩ := setRow_named X2 zB8C
  go_wp2_with ((with_reducible refine st_row (ty := 54) X2 infoB8C zB8C_same zB8C_one hW3 ?_ ?_ ?_); rfl; rfl)
  refine bodyPost_ret (v := .tuple #[.agg zB8C, .int .i64 30]) (openNC_results X3 rfl rfl) rfl ?_
  exact ⟨rfl, below_row (B1.trans (hb2.mono (by omega))) hW3 (by omega)⟩

set_option maxHeartbeats 1000000 in
set_option maxRecDepth 100000 in
theorem isBookM_calls (w : World) (h : Book w p b x y T S) (hS : S.length < 1000000) :
    Calls Tryz.prog 69 #[.pointer (some ⟨p, 0, none⟩)] w fun e w' => e = .returned (.bool true) ∧ Below w.heap.size w w' := by
  have HO : Hid _ := fun wx (hb : Below w.heap.size w wx) => openC_nobody wx (h.below hb) hS
  go_enter Tryz.func69, Tryz.ntmps69
  go_wp2_with fail
  refine (HO.out _ (by go_grown)).mono ?_
  rintro e w2 ⟨rfl, hb2⟩
  obtain ⟨W3, hW3, X3, B3⟩ : ∃ W3, w2.alloc (.cells #[.int .i64 0, .int .i64 0, .int .i64 0, .int .i64 0, .int .i64 0, .string ⟨#[]⟩, .string ⟨#[]⟩, .slice none 0 0] 54) = W3 ∧ Blk W3 w2.heap.size zB8C 54 ∧ Below w2.heap.size w2 W3 :=
    ⟨_, rfl, blk_new _ _ _ _ rfl, by go_grown⟩
  obtain ⟨W4, hW4, X4, _⟩ := setRow_named X3 zB8C
  go_wp2_with ((with_reducible refine st_row (ty := 54) X3 infoB8C zB8C_same zB8C_one hW4 ?_ ?_ ?_); rfl; rfl)
  go_ret
  exact ⟨rfl, below_row (chainC hb2 B3) hW4 hb2.size⟩

/-- A client as data. -/
structure Cs where
  cf : Int
  cc : Int
  cg : Int
  cp : Int
  id : Int
  stamp : Int
  asked : ByteArray
  ticks : Int
  told : Rps
  ans : Rps

def anC (l : Rps) : List Value := l.flatMap fun x => [.int .i64 x.1, .string x.2]
theorem anC_len (l : Rps) : (anC l).length = l.length * 2 := by
  induction l with
  | nil => rfl
  | cons x l ih => simp only [anC, List.flatMap_cons, List.length_append, List.length_cons, List.length_nil] at ih ⊢; omega
theorem anC_snoc (l : Rps) (x : Int × ByteArray) : anC (l ++ [x]) = anC l ++ [.int .i64 x.1, .string x.2] := by simp [anC]
def clC (C : Cs) (p tm : Nat) (av : Value) : Array Value := #[.int .i64 C.cf, .int .i64 C.cc, .int .i64 C.cg, .int .i64 C.cp, .int .i64 C.id, .pointer (some ⟨p, 0, none⟩), .int .i64 C.stamp, .string C.asked, .int .i64 C.ticks, .map (some tm), av]

/-- What a call leaves: blocks of cells that are no client's, and not of a row of answers v. -/
structure Kpt (v : Value) (w w' : World) : Prop where
  size : w.heap.size ≤ w'.heap.size
  blk : ∀ (k : Nat) (cs : Array Value) (t : TypeId), t ≠ 122 → v.ownBlock ≠ some k → Blk w k cs t → Blk w' k cs t
variable {v : Value}
theorem Kpt.refl (w : World) : Kpt v w w := ⟨Nat.le_refl _, fun _ _ _ _ _ h => h⟩
theorem Kpt.trans {u z w : World} (h : Kpt v u z) (k : Kpt v z w) : Kpt v u w := ⟨Nat.le_trans h.size k.size, fun j cs t h1 h2 X => k.blk j cs t h1 h2 (h.blk j cs t h1 h2 X)⟩
theorem Kpt.of_below {w w' : World} (h : Below w.heap.size w w') : Kpt v w w' := ⟨h.size, fun _ _ _ _ _ X => X.below h⟩
theorem Kpt.of_off2 {w w' : World} (h : Book w p b x y T S) (ho : Off2 x y w w') : Kpt v w w' :=
  ⟨ho.size, fun j cs t _ _ X => X.off2 ho (fun e => by have := h.nums.mx; unfold Blk at X; rw [e, this] at X; cases X) (fun e => by have := h.nums.my; unfold Blk at X; rw [e, this] at X; cases X)⟩
/-- The row of answers is as it was, or a new one. -/
def Frs (v v' : Value) (w : World) : Prop := v'.ownBlock = v.ownBlock ∨ ∀ k, v'.ownBlock = some k → w.heap.size ≤ k

/-- A client beside its book, above w0. -/
structure St (w0 w : World) (p b x y : Nat) (T : List ByteArray) (S : List (Int × ByteArray)) (q tm tc : Nat) (av : Value) (C : Cs) : Prop where
  below : Below w0.heap.size w0 w
  book : Book w p b x y T S
  blk : Blk w q (clC C p tm av) 122
  map : RMap w tm C.told tc
  row : w.ownsRow w0.heap.size 82 2 av C.ans.length (anC C.ans)
  low : w0.heap.size ≤ p ∧ w0.heap.size ≤ b ∧ w0.heap.size ≤ x ∧ w0.heap.size ≤ y ∧ w0.heap.size ≤ q ∧ w0.heap.size ≤ tm
  nx : tm ≠ x
  ny : tm ≠ y
variable {q tm tc : Nat} {av : Value} {C : Cs} {w0 : World}
theorem St.keep {w w' : World} (h : St w0 w p b x y T S q tm tc av C) (hb : Below w.heap.size w w') : St w0 w' p b x y T S q tm tc av C :=
  ⟨h.below.trans (hb.mono h.below.size), h.book.below hb, h.blk.below hb, h.map.below hb, own_below h.row hb, h.low, h.nx, h.ny⟩
theorem St.qx {w : World} (h : St w0 w p b x y T S q tm tc av C) : q ≠ x := fun e => by
  have h1 := h.blk; unfold Blk at h1; rw [e, h.book.nums.mx] at h1; cases h1
theorem St.qy {w : World} (h : St w0 w p b x y T S q tm tc av C) : q ≠ y := fun e => by
  have h1 := h.blk; unfold Blk at h1; rw [e, h.book.nums.my] at h1; cases h1
theorem St.off2 {w w' : World} {S' : List (Int × ByteArray)} (h : St w0 w p b x y T S q tm tc av C) (hB : Book w' p b x y T S') (ho : Off2 x y w w') : St w0 w' p b x y T S' q tm tc av C :=
  ⟨⟨ho.os.trans h.below.os, ho.tape.trans h.below.tape, ho.output.trans h.below.output, Nat.le_trans h.below.size ho.size, fun k hk => (ho.block k (Nat.lt_of_lt_of_le hk h.below.size) (by have := h.low; omega) (by have := h.low; omega)).trans (h.below.block k hk)⟩,
   hB, h.blk.off2 ho h.qx h.qy, h.map.keep (ho.block tm h.map.lt h.nx h.ny), own_off2 h.book h.row ho, h.low, h.nx, h.ny⟩
theorem St.qp {w : World} (h : St w0 w p b x y T S q tm tc av C) : q ≠ p := fun e => by
  have h1 := h.blk; have h2 := h.book.blk; unfold Blk at h1 h2; rw [e, h2] at h1; cases h1
theorem St.qb {w : World} (h : St w0 w p b x y T S q tm tc av C) : q ≠ b := fun e => by
  have h1 := h.blk; have h2 := h.book.nums.blk; unfold Blk at h1 h2; rw [e, h2] at h1; cases h1

theorem withinK_calls (n m : Int) (w : World) : Calls Tryz.prog 57 #[.int .i64 n, .int .i64 m] w fun e w' => e = .returned (.bool (decide (1 ≤ n) && decide (n ≤ m))) ∧ w' = w := by
  by_cases h1 : 1 ≤ n
  · have e1 : decide (1 ≤ n) = true := decide_eq_true h1
    rw [e1, Bool.true_and]
    go_enter Tryz.func57, Tryz.ntmps57
    go_wp2
    go_ret
    exact ⟨rfl, rfl⟩
  · have e1 : decide (1 ≤ n) = false := decide_eq_false h1
    rw [e1, Bool.false_and]
    go_enter Tryz.func57, Tryz.ntmps57
    go_wp2
    go_ret
    exact ⟨rfl, rfl⟩
def inB (n m : Int) : Bool := decide (1 ≤ n) && decide (n ≤ m)
def fitsB (cf cc cg cp : Int) : Bool := inB cf 4 && (inB cc 16 && (inB cg 4 && inB cp 64))
set_option maxHeartbeats 1000000 in
set_option maxRecDepth 100000 in
theorem fits_calls (cf cc cg cp : Int) (w : World) : Calls Tryz.prog 26 #[.agg #[.int .i64 cf, .int .i64 cc, .int .i64 cg, .int .i64 cp]] w fun e w' => e = .returned (.bool (fitsB cf cc cg cp)) ∧ Below w.heap.size w w' := by
  obtain ⟨W1, hW1, X1, B1⟩ : ∃ W1, w.alloc (.cells #[.int .i64 cf, .int .i64 cc, .int .i64 cg, .int .i64 cp] 28) = W1 ∧ Blk W1 w.heap.size #[.int .i64 cf, .int .i64 cc, .int .i64 cg, .int .i64 cp] 28 ∧ Below w.heap.size w W1 :=
    ⟨_, rfl, blk_new _ _ _ _ rfl, by go_grown⟩
  have e0 : W1.cell? ⟨w.heap.size, 0, none⟩ = some (.int .i64 cf) := X1.cell rfl
  have e1 : W1.cell? ⟨w.heap.size, 1, none⟩ = some (.int .i64 cc) := X1.cell rfl
  have e2 : W1.cell? ⟨w.heap.size, 2, none⟩ = some (.int .i64 cg) := X1.cell rfl
  have e3 : W1.cell? ⟨w.heap.size, 3, none⟩ = some (.int .i64 cp) := X1.cell rfl
  have HA : Hid _ := fun wx => withinK_calls cf 4 wx
  have HB : Hid _ := fun wx => withinK_calls cc 16 wx
  have HC : Hid _ := fun wx => withinK_calls cg 4 wx
  have HD : Hid _ := fun wx => withinK_calls cp 64 wx
  have hF : fitsB cf cc cg cp = (inB cf 4 && (inB cc 16 && (inB cg 4 && inB cp 64))) := rfl
  change Hid (∀ wx, Calls Tryz.prog 57 #[.int .i64 cf, .int .i64 4] wx fun e w' => e = .returned (.bool (inB cf 4)) ∧ w' = wx) at HA
  change Hid (∀ wx, Calls Tryz.prog 57 #[.int .i64 cc, .int .i64 16] wx fun e w' => e = .returned (.bool (inB cc 16)) ∧ w' = wx) at HB
  change Hid (∀ wx, Calls Tryz.prog 57 #[.int .i64 cg, .int .i64 4] wx fun e w' => e = .returned (.bool (inB cg 4)) ∧ w' = wx) at HC
  change Hid (∀ wx, Calls Tryz.prog 57 #[.int .i64 cp, .int .i64 64] wx fun e w' => e = .returned (.bool (inB cp 64)) ∧ w' = wx) at HD
  rw [hF]
  clear hF
  generalize inB cf 4 = A at *
  generalize inB cc 16 = B at *
  generalize inB cg 4 = G at *
  generalize inB cp 64 = D at *
  cases A
  · go_enter Tryz.func26, Tryz.ntmps26
    go_wp2_with fail
    refine (HA.out _).mono ?_
    rintro e w2 ⟨rfl, rfl⟩
    go_wp2
    go_ret
    exact ⟨rfl, B1⟩
  cases B
  · go_enter Tryz.func26, Tryz.ntmps26
    go_wp2_with fail
    refine (HA.out _).mono ?_
    rintro e w2 ⟨rfl, rfl⟩
    go_wp2_with fail
    refine (HB.out _).mono ?_
    rintro e w2 ⟨rfl, rfl⟩
    go_wp2
    go_ret
    exact ⟨rfl, B1⟩
  cases G
  · go_enter Tryz.func26, Tryz.ntmps26
    go_wp2_with fail
    refine (HA.out _).mono ?_
    rintro e w2 ⟨rfl, rfl⟩
    go_wp2_with fail
    refine (HB.out _).mono ?_
    rintro e w2 ⟨rfl, rfl⟩
    go_wp2_with fail
    refine (HC.out _).mono ?_
    rintro e w2 ⟨rfl, rfl⟩
    go_wp2
    go_ret
    exact ⟨rfl, B1⟩
  · go_enter Tryz.func26, Tryz.ntmps26
    go_wp2_with fail
    refine (HA.out _).mono ?_
    rintro e w2 ⟨rfl, rfl⟩
    go_wp2_with fail
    refine (HB.out _).mono ?_
    rintro e w2 ⟨rfl, rfl⟩
    go_wp2_with fail
    refine (HC.out _).mono ?_
    rintro e w2 ⟨rfl, rfl⟩
    go_wp2_with fail
    refine (HD.out _).mono ?_
    rintro e w2 ⟨rfl, rfl⟩
    go_wp2
    go_ret
    exact ⟨rfl, B1⟩

set_option maxHeartbeats 1000000 in
set_option maxRecDepth 100000 in
theorem treeNew_calls (w : World) (h : Book w p b x y T S) (hS : S.length < 1000000) :
    Calls Tryz.prog 58 #[.pointer (some ⟨p, 0, none⟩)] w fun e w' => ∃ k, e = .returned (.pointer (some ⟨k, 0, none⟩)) ∧ Below w.heap.size w w' := by
  have HI : Hid _ := isBookM_calls w h hS
  go_enter Tryz.func58, Tryz.ntmps58
  go_wp2_with fail
  refine Calls.mono HI.out ?_
  rintro e w2 ⟨rfl, b2⟩
  go_wp2
  go_ret
  exact ⟨_, rfl, by first | exact chainC b2 (by go_grown) | (exact b2.trans ((by go_grown : Below w2.heap.size w2 _).mono b2.size))⟩
set_option maxHeartbeats 1000000 in
set_option maxRecDepth 100000 in
theorem isBookC_calls (w : World) (h : Book w p b x y T S) (hS : S.length < 1000000) :
    Calls Tryz.prog 27 #[.pointer (some ⟨p, 0, none⟩)] w fun e w' => e = .returned (.bool true) ∧ Below w.heap.size w w' := by
  have HI : Hid _ := treeNew_calls w h hS
  go_enter Tryz.func27, Tryz.ntmps27
  go_wp2_with fail
  refine Calls.mono HI.out ?_
  rintro e w2 ⟨k, rfl, b2⟩
  go_wp2
  go_ret
  exact ⟨rfl, b2⟩

/-- A client that has asked for nothing. -/
def cs0 (cf cc cg cp id : Int) : Cs := ⟨cf, cc, cg, cp, id, 0, ⟨#[]⟩, 0, [], []⟩
set_option maxHeartbeats 2000000 in
set_option maxRecDepth 100000 in
theorem new_ok (cf cc cg cp id : Int) (w0 w : World) (hb0 : Below w0.heap.size w0 w) (hlow : w0.heap.size ≤ p ∧ w0.heap.size ≤ b ∧ w0.heap.size ≤ x ∧ w0.heap.size ≤ y) (h : Book w p b x y T S) (hS : S.length < 1000000) (hF : fitsB cf cc cg cp = true) (h0 : 0 ≤ id) (h1 : id < cc) :
    Calls Tryz.prog 20 #[.agg #[.int .i64 cf, .int .i64 cc, .int .i64 cg, .int .i64 cp], .int .i64 id, .pointer (some ⟨p, 0, none⟩)] w fun e w' => ∃ q tm, e = .returned (.tuple #[.pointer (some ⟨q, 0, none⟩), .int .i64 0]) ∧ St w0 w' p b x y T S q tm 0 (.slice none 0 0) (cs0 cf cc cg cp id) ∧ Below w.heap.size w w' := by
  obtain ⟨W1, hW1, X1, B1⟩ : ∃ W1, w.alloc (.cells #[.int .i64 cf, .int .i64 cc, .int .i64 cg, .int .i64 cp] 28) = W1 ∧ Blk W1 w.heap.size #[.int .i64 cf, .int .i64 cc, .int .i64 cg, .int .i64 cp] 28 ∧ Below w.heap.size w W1 :=
    ⟨_, rfl, blk_new _ _ _ _ rfl, by go_grown⟩
  have HF : Hid _ := fun wx => fits_calls cf cc cg cp wx
  rw [hF] at HF
  have HI : Hid _ := fun wx (hx : Book wx p b x y T S) => isBookC_calls wx hx hS
  have d0 : decide (id < 0) = false := decide_eq_false (by omega)
  have d1 : decide (cc ≤ id) = false := decide_eq_false (by omega)
  have hGi : (Tryz.prog.info? 28).map (·.size) = some (#[.int .i64 cf, .int .i64 cc, .int .i64 cg, .int .i64 cp] : Array Value).size := by kernel_rfl
  go_enter Tryz.func20, Tryz.ntmps20
  go_wp2_with ((with_reducible refine rd_row (ty := 28) X1 Tryz.underlying28 rfl hGi ?_ ?_); rfl)
  refine (HF.out _).mono ?_
  rintro e w2 ⟨rfl, b2⟩
  have B2 := chainC B1 b2
  have X2 := X1.below b2
  have c1 : w2.cell? ⟨w.heap.size, 1, none⟩ = some (.int .i64 cc) := X2.cell rfl
  go_wp2_with fail
  refine (HI.out _ (h.below B2)).mono ?_
  rintro e w3 ⟨rfl, b3⟩
  have B3 := chainC B2 b3
  have X3 := X2.below b3
  have z3 := B3.size
  have K3 := h.below B3
  have lt3 := K3.lts
  have hmk : ∀ t wx, (Instr.makeMap t none).run Tryz.prog wx = .ok (.map (some wx.heap.size)) (wx.alloc (.map #[] 0)) := fun _ _ => rfl
  go_wp2_with ((with_reducible refine rd_row (ty := 28) X3 Tryz.underlying28 rfl hGi ?_ ?_); rfl)
  go_ret2
  have hm : ((w3.alloc (.map #[] 0)).alloc (.cells (clC (cs0 cf cc cg cp id) p w3.heap.size (.slice none 0 0)) 122)).heap[w3.heap.size]? = some (.map #[] 0) :=
    ((MapKept.heap_alloc _ _).2 _ (by simp)).trans (MapKept.heap_alloc _ _).1
  have B4 : Below w3.heap.size w3 ((w3.alloc (.map #[] 0)).alloc (.cells (clC (cs0 cf cc cg cp id) p w3.heap.size (.slice none 0 0)) 122)) := by go_grown
  have z0 := hb0.size
  refine ⟨w3.heap.size + 1, w3.heap.size, rfl, ⟨hb0.trans ((chainC B3 B4).mono z0), K3.below B4, blk_new _ _ _ _ (by simp), hm, ⟨rfl, Or.inl ⟨rfl, rfl⟩⟩, ⟨hlow.1, hlow.2.1, hlow.2.2.1, hlow.2.2.2, by omega, by omega⟩, by omega, by omega⟩, chainC B3 B4⟩
end Go.Proofs.YtocphdikppeijaaGreat
