/- Verify where not enough replicas signed the root. (Its first half is ClV's and ClVf's: never both in one seat.) -/
import Derived.Test.YtocphdikppeijaaGreatLy49
import Derived.Test.YtocphdikppeijaaGreatLy41
import Derived.Test.YtocphdikppeijaaGreatLy39
import Derived.Test.YtocphdikppeijaaGreatLy33
import Derived.Test.YtocphdikppeijaaGreatLy38
namespace Go.Proofs.YtocphdikppeijaaGreat
open Go.RowKit
set_option linter.unusedSimpArgs false
set_option linter.unusedVariables false

variable {p b x y : Nat} {T : List ByteArray} {S : List (Int × ByteArray)}
def lightZ : Array Value := #[.int .i64 0, .string ⟨#[]⟩, .bool false]
theorem infoLight : (Tryz.prog.info? 34).map (·.size) = some lightZ.size := by kernel_rfl
theorem lightZ_one : lightZ.all (·.oneCell') = true := by simp [lightZ, Value.oneCell']
theorem lightZ_same : lightZ.size = lightZ.size := rfl
theorem verify_results {w' : World} {c0 c1 c2 v : Value} {r : Nat} (X : Blk w' r #[c0, c1, c2] 34) {t : Array Value} (h1 : t.getD 8 undef = .pointer (some ⟨r, 0, none⟩)) (h2 : t.getD 9 undef = v) :
    (results Tryz.f9 t).run Tryz.prog w' = .ok (.tuple #[.agg #[c0, c1, c2], v]) w' := by
  have a0 := X.cell (o := 0) rfl
  have a1 := X.cell (o := 1) rfl
  have a2 := X.cell (o := 2) rfl
  simp only [Array.getD_eq_getD_getElem?] at h1 h2
  simp [results, Tryz.results9, go_sem, h1, h2, a0, a1, a2]
/-- The two boxes that Verify opens with. -/
theorem verify_boxes (w : World) (cf cc cg cp : Int) : ∃ W1, (w.alloc (.cells #[.int .i64 cf, .int .i64 cc, .int .i64 cg, .int .i64 cp] 28)).alloc (.cells #[.int .i64 0, .string ⟨#[]⟩, .bool false] 34) = W1 ∧ Blk W1 w.heap.size #[.int .i64 cf, .int .i64 cc, .int .i64 cg, .int .i64 cp] 28 ∧ Blk W1 (w.heap.size + 1) lightZ 34 ∧ Below w.heap.size w W1 ∧ W1.heap.size = w.heap.size + 2 :=
  ⟨_, rfl, (blk_new _ _ _ _ rfl).alloc _, blk_new _ _ _ _ (by simp), by go_grown, by simp⟩
theorem infoCfg (cf cc cg cp : Int) : (Tryz.prog.info? 28).map (·.size) = some (#[.int .i64 cf, .int .i64 cc, .int .i64 cg, .int .i64 cp] : Array Value).size := by kernel_rfl

theorem light_eq (w : World) : (binOp .eql 34 (.agg #[.int .i64 0, .string ⟨#[]⟩, .bool false]) (.agg #[.int .i64 0, .string ⟨#[]⟩, .bool false])).run Tryz.prog w = .ok (.bool true) w := by kernel_rfl
set_option maxHeartbeats 4000000 in
set_option maxRecDepth 100000 in
theorem verify_few (cf cc cg cp : Int) (key s : ByteArray) (w : World) (h : Book w p b x y T S) (hS : S.length < 1000000) (hs : s.size ≤ maxLen) (hF : fitsB cf cc cg cp = true) (hcf : 0 ≤ cf ∧ cf ≤ 4) (hE : (opnd S s).2.2 = 0) (hk : (opnd S s).2.1.kind = 13) (hl : (opnd S s).2.1.list.length < 1000000) (hz : ∀ m ∈ (opnd S s).2.1.list, m.body.size ≤ maxLen ∧ m.sig.size ≤ maxLen)
    (hq : ((qset (vote S 5 0 (opnd S s).2.1.seq (opnd S s).2.1.digest) (3 * cf + 1) (opnd S s).2.1.list).length : Int) ≤ cf) :
    Calls Tryz.prog 9 #[.agg #[.int .i64 cf, .int .i64 cc, .int .i64 cg, .int .i64 cp], .pointer (some ⟨p, 0, none⟩), .string key, .string s] w fun e w' => e = .returned (.tuple #[.agg lightZ, .int .i64 30]) ∧ Below w.heap.size w w' := by
  obtain ⟨W1, hW1, XC, XL, B1, Z1⟩ := verify_boxes w cf cc cg cp
  have HF : Hid _ := fun wx => fits_calls cf cc cg cp wx
  rw [hF] at HF
  have HI : Hid _ := fun wx (hx : Book wx p b x y T S) => isBookC_calls wx hx hS
  have HO : Hid _ := fun wx (hx : Book wx p b x y T S) => opened_calls s wx hx hS hs
  have HSz : Hid _ := fun wx => size_calls cf cc cg cp wx hcf.1 (by omega)
  have hGi := infoCfg cf cc cg cp
  have HZ1 : Hid _ := Z1
  rw [hE] at HO
  generalize (opnd S s).1 = f at *
  generalize (opnd S s).2.1 = D at *
  unfold Bd.val at HO
  have hd1 : decide (D.kind = 13) = true := decide_eq_true hk
  have hd2 : (D.kind == 13) = true := hd1
  have hd3 : (D.kind != 13) = false := by rw [bne, hd2]; rfl
  have HQ0 : Hid _ := fun wx (hx : Book wx p b x y T S) lv (hs2 : Sgs wx lv D.list) => quorum_calls lv D.list 5 0 D.seq D.digest (3 * cf + 1) wx hx hS hs2 hl
  generalize hN : (qset (vote S 5 0 D.seq D.digest) (3 * cf + 1) D.list).length = N at *
  have hdq : decide ((N : Int) ≤ cf) = true := decide_eq_true hq
  have HZZ : Hid _ := hz
  clear Z1 hE hk hN hz hl
  go_enter Tryz.func9, Tryz.ntmps9
  go_wp2_with ((with_reducible refine rd_row (ty := 28) XC Tryz.underlying28 rfl hGi ?_ ?_); rfl)
  refine (HF.out _).mono ?_
  rintro e w2 ⟨rfl, b2⟩
  have B2 := chainC B1 b2
  go_wp2_with fail
  refine (HI.out _ (h.below B2)).mono ?_
  rintro e w3 ⟨rfl, b3⟩
  have B3 := chainC B2 b3
  go_wp2_with fail
  refine (HO.out _ (h.below B3)).mono ?_
  rintro e w4 ⟨a0, n0, k0, rfl, how, b4⟩
  have B4 := chainC B3 b4
  obtain ⟨W5, hW5, XD, B5⟩ : ∃ W5, w4.alloc (.cells #[.int .i64 D.kind, .int .i64 D.view, .int .i64 D.seq, .int .i64 D.client, .int .i64 D.stamp, .string D.digest, .string D.text, .slice a0 n0 k0] 54) = W5 ∧ Blk W5 w4.heap.size (D.cells (.slice a0 n0 k0)) 54 ∧ Below w4.heap.size w4 W5 := ⟨_, rfl, blk_new _ _ _ _ rfl, by go_grown⟩
  have X5 := (((XL.below b2).below b3).below b4).below B5
  have XC5 := (((XC.below b2).below b3).below b4).below B5
  have hsg : Sgs W5 (.slice a0 n0 k0) D.list := Sgs.below (sgs_of_own how HZZ.out) B5
  have K5 := h.below (chainC B4 B5)
  have HQ : Hid (∀ y : BW W5, _) := fun y : BW W5 => HQ0.out y.w (K5.below y.h) (.slice a0 n0 k0) (hsg.below y.h)
  have c0 : W5.cell? ⟨w4.heap.size, 0, none⟩ = some (.int .i64 D.kind) := XD.cell rfl
  have y2 := fun y : BW W5 => y.cell (show W5.cell? ⟨w4.heap.size, 2, none⟩ = some (.int .i64 D.seq) from XD.cell rfl)
  have y5 := fun y : BW W5 => y.cell (show W5.cell? ⟨w4.heap.size, 5, none⟩ = some (.string D.digest) from XD.cell rfl)
  have y7 := fun y : BW W5 => y.cell (show W5.cell? ⟨w4.heap.size, 7, none⟩ = some (.slice a0 n0 k0) from XD.cell rfl)
  have v0 := fun y : BW W5 => y.cell (show W5.cell? ⟨w.heap.size, 0, none⟩ = some (.int .i64 cf) from XC5.cell rfl)
  have v1 := fun y : BW W5 => y.cell (show W5.cell? ⟨w.heap.size, 1, none⟩ = some (.int .i64 cc) from XC5.cell rfl)
  have v2 := fun y : BW W5 => y.cell (show W5.cell? ⟨w.heap.size, 2, none⟩ = some (.int .i64 cg) from XC5.cell rfl)
  have v3 := fun y : BW W5 => y.cell (show W5.cell? ⟨w.heap.size, 3, none⟩ = some (.int .i64 cp) from XC5.cell rfl)
  have hne := bw_some W5
  have HB5 : Hid _ := chainC B4 B5
  clear HQ0 how hsg K5 B2 B3 B4 b2 b3 b4 B5 XD XC5
  go_wp2_with fail
  refine wp_region_below (by kernel_rfl) (by kernel_rfl) ?_
  iterate 13 (quiet_step (first
    | (go_at_call 30; exact BW.call _ (HSz.out _))
    | (go_at_call 29; exact BW.call _ (HQ.out _))))
  refine wpQuiet_nil ?_
  rintro w7 ⟨⟨_, b7⟩, rfl⟩
  have X7 := X5.below b7
  obtain ⟨W8, hW8, X8, _⟩ := setRow_named X7 lightZ
  go_wp2_with ((with_reducible refine st_row (ty := 34) X7 infoLight lightZ_same lightZ_one hW8 ?_ ?_ ?_); rfl; rfl)
  refine bodyPost_ret (v := .tuple #[.agg lightZ, .int .i64 30]) (verify_results X8 rfl rfl) rfl ?_
  exact ⟨rfl, below_row (chainC HB5.out b7) hW8 (by omega)⟩
end Go.Proofs.YtocphdikppeijaaGreat

namespace Go.Proofs.YtocphdikppeijaaGreat
open Go.RowKit
set_option linter.unusedSimpArgs false
set_option linter.unusedVariables false

/-- What was signed stays signed, by its number. -/
def Kps (S S' : List (Int × ByteArray)) : Prop := ∀ q ∈ S, q ∈ S' ∧ num S' q = num S q
theorem Kps.refl (S : List (Int × ByteArray)) : Kps S S := fun _ h => ⟨h, rfl⟩
theorem Kps.trans {S S' S'' : List (Int × ByteArray)} (h : Kps S S') (k : Kps S' S'') : Kps S S'' := fun q hq => ⟨(k q (h q hq).1).1, (k q (h q hq).1).2.trans (h q hq).2⟩
theorem Kps.note (S : List (Int × ByteArray)) (k : Int × ByteArray) : Kps S (note S k) := fun q hq => ⟨(mem_note _ _ _).2 (Or.inl hq), num_note _ hq⟩
theorem open_kps {S S' : List (Int × ByteArray)} {who : Int} {d : Bd} (hw : isSg who = true) (he : byE d = 0) (hk : Kps (note S (who, byS d)) S') : openR S' (sgM S who d) = .ok d := by
  obtain ⟨h1, h2⟩ := hk _ (note_mem S (who, byS d))
  have hm : isIn S' (who, byS d) = true := (isIn_iff _ _).2 h1
  have h := byE_ok he
  unfold openR chkB chk sgM
  simp only [hw, hm, h2, decide_true, Bool.and_self, if_true]
  unfold byS
  rw [if_pos he]
  exact of_bytes d h.1 (by omega)
section
variable (r : ByteArray) (A : Nat → Int) (S0 : List (Int × ByteArray))
def ckS : Nat → List (Int × ByteArray)
  | 0 => S0
  | n + 1 => note (ckS n) ((n : Int), byS (ckB (A n) r))
def ckM : Nat → List Sg
  | 0 => []
  | n + 1 => ckM n ++ [sgM (ckS r A S0 n) n (ckB (A n) r)]
theorem ckM_len (n : Nat) : (ckM r A S0 n).length = n := by
  induction n with
  | zero => rfl
  | succ n ih => simp [ckM, ih]
theorem ckS_len (n : Nat) : (ckS r A S0 n).length ≤ S0.length + n := by
  induction n with
  | zero => exact Nat.le_refl _
  | succ n ih =>
    have := note_len (ckS r A S0 n) ((n : Int), byS (ckB (A n) r))
    simp only [ckS]
    omega
theorem isSg_nat {n : Nat} (h : n < 256) : isSg (n : Int) = true := by
  unfold isSg
  simp only [decide_eq_true_eq]
  omega
theorem ckM_mem (n : Nat) {m : Sg} (h : m ∈ ckM r A S0 n) : ∃ i, i < n ∧ m = sgM (ckS r A S0 i) i (ckB (A i) r) := by
  induction n with
  | zero => simp [ckM] at h
  | succ n ih =>
    simp only [ckM, List.mem_append, List.mem_singleton] at h
    rcases h with h | h
    · obtain ⟨i, hi, e⟩ := ih h
      exact ⟨i, by omega, e⟩
    · exact ⟨n, by omega, h⟩
theorem ckM_ok (n : Nat) (hn : n ≤ 256) : (ckM r A S0 n).all sgOk = true := List.all_eq_true.2 fun m hm => by
  obtain ⟨i, hi, rfl⟩ := ckM_mem r A S0 n hm
  exact sgM_ok _ _ _ (isSg_nat (by omega))
theorem byS_ck (n : Int) (hr : r.size ≤ 32) : (byS (ckB n r)).size ≤ 400 := by
  have := ck_len n r hr
  unfold byS
  split
  · exact this
  · show 0 ≤ 400; omega
theorem ckM_bytes (n : Nat) (hr : r.size ≤ 32) : (sgsB (ckM r A S0 n)).length ≤ n * 450 := by
  induction n with
  | zero => simp [ckM, sgsB]
  | succ n ih =>
    unfold sgsB at ih ⊢
    simp only [ckM, List.flatMap_append, List.length_append, List.flatMap_singleton]
    have h1 := byS_ck r (A n) hr
    have h2 := enc_le (n : Int).toNat
    have h3 := txtB_len (byS (ckB (A n) r))
    have h4 := txtB_len (sgnB (num (note (ckS r A S0 n) ((n : Int), byS (ckB (A n) r))) ((n : Int), byS (ckB (A n) r))))
    have h5 := sgnB_size (num (note (ckS r A S0 n) ((n : Int), byS (ckB (A n) r))) ((n : Int), byS (ckB (A n) r)))
    have h6 : (sgB (sgM (ckS r A S0 n) n (ckB (A n) r))).length ≤ 450 := by
      unfold sgB sgM
      simp only [List.length_append]
      omega
    omega
/-- Those that speak for a number. -/
def forS (seq : Int) (n : Nat) : List Nat := (List.range n).filter fun i => decide (A i = seq)
theorem forS_succ (seq : Int) (n : Nat) : forS A seq (n + 1) = forS A seq n ++ (if A n = seq then [n] else []) := by
  unfold forS
  rw [List.range_succ, List.filter_append]
  congr 1
  by_cases h : A n = seq <;> simp [h]
theorem qset_ck (seq : Int) (below : Int) {S' : List (Int × ByteArray)} (n : Nat) (hn : n ≤ 256) (hb : (n : Int) ≤ below) (he : ∀ i, i < n → byE (ckB (A i) r) = 0) (hk : Kps (ckS r A S0 n) S') :
    qset (vote S' 5 0 seq r) below (ckM r A S0 n) = (forS A seq n).map fun i : Nat => (i : Int) := by
  induction n with
  | zero => rfl
  | succ n ih =>
    have ih' := ih (by omega) (by omega) (fun i hi => he i (by omega)) (Kps.trans (Kps.note _ _) hk)
    have ho := open_kps (isSg_nat (show n < 256 by omega)) (he n (by omega)) hk
    have hv : vote S' 5 0 seq r (sgM (ckS r A S0 n) n (ckB (A n) r)) = decide (A n = seq) := by
      unfold vote
      rw [ho]
      show (decide ((5 : Int) = 5) && decide ((0 : Int) = 0) && decide (A n = seq) && decide (r = r)) = decide (A n = seq)
      rw [decide_eq_true (rfl : (5 : Int) = 5), decide_eq_true (rfl : (0 : Int) = 0), decide_eq_true (rfl : r = r), Bool.and_true, Bool.true_and, Bool.true_and]
    have hno : ((n : Int)) ∉ (forS A seq n).map fun i : Nat => (i : Int) := fun h => by
      obtain ⟨i, hi, e⟩ := List.mem_map.1 h
      have := List.mem_range.1 (List.mem_filter.1 hi).1
      omega
    have hq : qset (vote S' 5 0 seq r) below (ckM r A S0 (n + 1)) = qstep (vote S' 5 0 seq r) below (qset (vote S' 5 0 seq r) below (ckM r A S0 n)) (sgM (ckS r A S0 n) n (ckB (A n) r)) := by
      unfold qset
      rw [ckM, List.foldl_append]
      rfl
    rw [hq, ih', forS_succ, List.map_append]
    unfold qstep
    rw [hv]
    by_cases h : A n = seq
    · rw [if_pos ⟨isSg_nat (by omega), by show (n : Int) < below; omega, hno, decide_eq_true h⟩, if_pos h]
      rfl
    · rw [if_neg (fun hh => h (of_decide_eq_true hh.2.2.2)), if_neg h]
      simp
end
end Go.Proofs.YtocphdikppeijaaGreat

namespace Go.Proofs.YtocphdikppeijaaGreat
open Go.RowKit
set_option linter.unusedSimpArgs false
set_option linter.unusedVariables false

variable {p b x y : Nat} {T : List ByteArray} {S : List (Int × ByteArray)}
theorem infoLight3 (n : Int) (v : ByteArray) (h : Bool) : (Tryz.prog.info? 34).map (·.size) = some (#[.int .i64 n, .string v, .bool h] : Array Value).size := by kernel_rfl
theorem lgSame (n : Int) (v : ByteArray) (h : Bool) : lightZ.size = (#[.int .i64 n, .string v, .bool h] : Array Value).size := rfl
theorem lgOne (n : Int) (v : ByteArray) (h : Bool) : (#[.int .i64 n, .string v, .bool h] : Array Value).all (·.oneCell') = true := by simp [Value.oneCell']
set_option maxHeartbeats 4000000 in
set_option maxRecDepth 100000 in
theorem verify_much (cf cc cg cp : Int) (key s : ByteArray) (w : World) (h : Book w p b x y T S) (hS : S.length < 1000000) (hs : s.size ≤ maxLen) (hF : fitsB cf cc cg cp = true) (hcf : 0 ≤ cf ∧ cf ≤ 4) (hE : (opnd S s).2.2 = 0) (hk : (opnd S s).2.1.kind = 13) (hl : (opnd S s).2.1.list.length < 1000000) (hT : T.length < 900000) (q : Pf) (htz : (opnd S s).2.1.text.size ≤ maxLen) (hp : ofPfR (opnd S s).2.1.text = .ok q) (hok : pfOk q = true) (hz : ∀ m ∈ (opnd S s).2.1.list, m.body.size ≤ maxLen ∧ m.sig.size ≤ maxLen)
    (hq : cf < ((qset (vote S 5 0 (opnd S s).2.1.seq (opnd S s).2.1.digest) (3 * cf + 1) (opnd S s).2.1.list).length : Int)) :
    Calls Tryz.prog 9 #[.agg #[.int .i64 cf, .int .i64 cc, .int .i64 cg, .int .i64 cp], .pointer (some ⟨p, 0, none⟩), .string key, .string s] w fun e w' => ∃ T', Grew x y p b T S w 40 T' w' ∧
      (((isK key = false ∨ (pfFits q && showsB q key) = false ∨ LedNot T' q (opnd S s).2.1.digest) ∧ ∃ E, E ≠ 0 ∧ e = .returned (.tuple #[.agg lightZ, .int .i64 E])) ∨
        (isK key = true ∧ pfFits q = true ∧ showsB q key = true ∧ LedAll T' q (opnd S s).2.1.digest ∧ e = .returned (.tuple #[.agg #[.int .i64 (opnd S s).2.1.seq, .string (valB q key), .bool (thereB q key)], .int .i64 0]))) := by
  obtain ⟨W1, hW1, XC, XL, B1, Z1⟩ := verify_boxes w cf cc cg cp
  have HF : Hid _ := fun wx => fits_calls cf cc cg cp wx
  rw [hF] at HF
  have HI : Hid _ := fun wx (hx : Book wx p b x y T S) => isBookC_calls wx hx hS
  have HO : Hid _ := fun wx (hx : Book wx p b x y T S) => opened_calls s wx hx hS hs
  have HSz : Hid _ := fun wx => size_calls cf cc cg cp wx hcf.1 (by omega)
  have hGi := infoCfg cf cc cg cp
  have HZ1 : Hid _ := Z1
  rw [hE] at HO
  generalize (opnd S s).1 = f at *
  generalize (opnd S s).2.1 = D at *
  unfold Bd.val at HO
  have hd1 : decide (D.kind = 13) = true := decide_eq_true hk
  have hd2 : (D.kind == 13) = true := hd1
  have hd3 : (D.kind != 13) = false := by rw [bne, hd2]; rfl
  have HQ0 : Hid _ := fun wx (hx : Book wx p b x y T S) lv (hs2 : Sgs wx lv D.list) => quorum_calls lv D.list 5 0 D.seq D.digest (3 * cf + 1) wx hx hS hs2 hl
  generalize hN : (qset (vote S 5 0 D.seq D.digest) (3 * cf + 1) D.list).length = N at *
  have hdq : decide ((N : Int) ≤ cf) = false := decide_eq_false (by omega)
  have HZZ : Hid _ := hz
  have HOf : Hid (∀ wx, Calls Tryz.prog 31 #[.string D.text] wx fun e w' => ∃ (g : Option Addr) (n c : Nat) (ps : List (Pt × Value)), e = .returned (.tuple #[.agg #[.int .i64 q.cnt, .slice g n c], .int .i64 0]) ∧ q.paths = ps.map Prod.fst ∧ PtsOwn w' wx.heap.size (.slice g n c) ps ∧ Below wx.heap.size wx w') := fun wx => by
    have := ofProof_calls D.text wx htz
    rw [hp] at this
    refine this.mono ?_
    rintro e w' ⟨lv, ps, rfl, h1, ho, hb⟩
    obtain ⟨g, c, rfl⟩ := own_slice ho.row
    exact ⟨g, _, c, ps, rfl, h1, ho, hb⟩
  have HOK : Hid _ := hok
  clear Z1 hE hk hN hz hl hp hok hq htz
  go_enter Tryz.func9, Tryz.ntmps9
  go_wp2_with ((with_reducible refine rd_row (ty := 28) XC Tryz.underlying28 rfl hGi ?_ ?_); rfl)
  refine (HF.out _).mono ?_
  rintro e w2 ⟨rfl, b2⟩
  have B2 := chainC B1 b2
  go_wp2_with fail
  refine (HI.out _ (h.below B2)).mono ?_
  rintro e w3 ⟨rfl, b3⟩
  have B3 := chainC B2 b3
  go_wp2_with fail
  refine (HO.out _ (h.below B3)).mono ?_
  rintro e w4 ⟨a0, n0, k0, rfl, how, b4⟩
  have B4 := chainC B3 b4
  have z4 := B4.size
  obtain ⟨W5, hW5, XD, B5⟩ : ∃ W5, w4.alloc (.cells #[.int .i64 D.kind, .int .i64 D.view, .int .i64 D.seq, .int .i64 D.client, .int .i64 D.stamp, .string D.digest, .string D.text, .slice a0 n0 k0] 54) = W5 ∧ Blk W5 w4.heap.size (D.cells (.slice a0 n0 k0)) 54 ∧ Below w4.heap.size w4 W5 := ⟨_, rfl, blk_new _ _ _ _ rfl, by go_grown⟩
  have X5 := (((XL.below b2).below b3).below b4).below B5
  have XC5 := (((XC.below b2).below b3).below b4).below B5
  have hsg : Sgs W5 (.slice a0 n0 k0) D.list := Sgs.below (sgs_of_own how HZZ.out) B5
  have K5 := h.below (chainC B4 B5)
  have HK5 : Hid _ := K5
  have HQ : Hid (∀ y : BW W5, _) := fun y : BW W5 => HQ0.out y.w (K5.below y.h) (.slice a0 n0 k0) (hsg.below y.h)
  have c0 : W5.cell? ⟨w4.heap.size, 0, none⟩ = some (.int .i64 D.kind) := XD.cell rfl
  have y2 := fun y : BW W5 => y.cell (show W5.cell? ⟨w4.heap.size, 2, none⟩ = some (.int .i64 D.seq) from XD.cell rfl)
  have y5 := fun y : BW W5 => y.cell (show W5.cell? ⟨w4.heap.size, 5, none⟩ = some (.string D.digest) from XD.cell rfl)
  have y7 := fun y : BW W5 => y.cell (show W5.cell? ⟨w4.heap.size, 7, none⟩ = some (.slice a0 n0 k0) from XD.cell rfl)
  have v0 := fun y : BW W5 => y.cell (show W5.cell? ⟨w.heap.size, 0, none⟩ = some (.int .i64 cf) from XC5.cell rfl)
  have v1 := fun y : BW W5 => y.cell (show W5.cell? ⟨w.heap.size, 1, none⟩ = some (.int .i64 cc) from XC5.cell rfl)
  have v2 := fun y : BW W5 => y.cell (show W5.cell? ⟨w.heap.size, 2, none⟩ = some (.int .i64 cg) from XC5.cell rfl)
  have v3 := fun y : BW W5 => y.cell (show W5.cell? ⟨w.heap.size, 3, none⟩ = some (.int .i64 cp) from XC5.cell rfl)
  have HXD : Hid _ := XD
  have hne := bw_some W5
  have HB5 : Hid _ := chainC B4 B5
  clear HQ0 how hsg K5 B2 B3 B4 b2 b3 b4 B5 XD XC5
  go_wp2_with fail
  refine wp_region_below (by kernel_rfl) (by kernel_rfl) ?_
  iterate 13 (quiet_step (first
    | (go_at_call 30; exact BW.call _ (HSz.out _))
    | (go_at_call 29; exact BW.call _ (HQ.out _))))
  refine wpQuiet_nil ?_
  rintro w7 ⟨⟨_, b7⟩, rfl⟩
  have X7 := X5.below b7
  have XD7 := Blk.below HXD.out b7
  have c6 : w7.cell? ⟨w4.heap.size, 6, none⟩ = some (.string D.text) := XD7.cell rfl
  have B7 := chainC HB5.out b7
  have HK7 : Hid _ := HK5.out.below b7
  have hlt := h.lts
  have hz1 := HZ1.out
  clear HQ HSz y2 y5 y7 v0 v1 v2 v3 HK5 HXD
  go_wp2_with fail
  refine Calls.mono (HOf.out _) ?_
  rintro e w8 ⟨g8, n8, c8, ps, rfl, hps, hpo, b8⟩
  obtain ⟨W9, hW9, X9, B9⟩ : ∃ W9, w8.alloc (.cells #[.int .i64 q.cnt, .slice g8 n8 c8] 45) = W9 ∧ Blk W9 w8.heap.size #[.int .i64 q.cnt, .slice g8 n8 c8] 45 ∧ Below w8.heap.size w8 W9 := ⟨_, rfl, blk_new _ _ _ _ rfl, by go_grown⟩
  have b89 := chainC b8 B9
  have p0 : W9.cell? ⟨w8.heap.size, 0, none⟩ = some (.int .i64 q.cnt) := X9.cell rfl
  have p1 : W9.cell? ⟨w8.heap.size, 1, none⟩ = some (.slice g8 n8 c8) := X9.cell rfl
  have XD9 := XD7.below b89
  have c5 : W9.cell? ⟨w4.heap.size, 5, none⟩ = some (.string D.digest) := XD9.cell rfl
  have hpc := ptsC_own hpo.row hpo.each (fun z hz => (pfOk_parts HOK.out).2.2 z.1 (by rw [hps]; exact List.mem_map.2 ⟨z, hz, rfl⟩))
  have K9 := HK7.out.below b89
  have HV : Hid _ := verify_calls q (.slice g8 n8 c8) D.digest key W9 (by rw [hps]; exact hpc.below B9) K9 hS hT
  unfold Pf.val at HV
  have HL9 : Hid _ := X7.below b89
  have HD9 : Hid _ := XD9
  have HK9 : Hid _ := K9
  have HB9 : Hid _ := chainC B7 b89
  clear hpc hpo hps X9 X7 XD7 XD9 K9 HK7 HOf HOK B7 b7 b8 B9 b89 c6 X5 HB5 HF HI HO XC XL
  go_wp2_with fail
  refine Calls.mono HV.out ?_
  rintro e w10 P10
  have hG0 : Grew x y p b T S w 0 T W9 := (Grew.refl h).below HB9.out
  obtain ⟨T', E, vv, hh, G10, he, hcase⟩ : ∃ (T' : List ByteArray) (E : Int) (vv : ByteArray) (hh : Bool), Grew x y p b T S W9 40 T' w10 ∧ e = .returned (.tuple #[.string vv, .bool hh, .int .i64 E]) ∧ ((E ≠ 0 ∧ (isK key = false ∨ (pfFits q && showsB q key) = false ∨ LedNot T' q D.digest)) ∨ (E = 0 ∧ isK key = true ∧ pfFits q = true ∧ showsB q key = true ∧ LedAll T' q D.digest ∧ vv = valB q key ∧ hh = thereB q key)) := by
    cases hk1 : isK key
    · obtain ⟨he, hb⟩ := P10.field hk1
      exact ⟨T, 14, _, _, ((Grew.refl HK9.out).below hb).le (by omega), he, Or.inl ⟨by decide, Or.inl rfl⟩⟩
    · cases hk2 : (pfFits q && showsB q key)
      · obtain ⟨he, hb⟩ := P10.bad hk1 hk2
        exact ⟨T, 40, _, _, ((Grew.refl HK9.out).below hb).le (by omega), he, Or.inl ⟨by decide, Or.inr (Or.inl rfl)⟩⟩
      · obtain ⟨h3, h4⟩ := Bool.and_eq_true_iff.1 hk2
        obtain ⟨T', G, ⟨hn, he⟩ | ⟨hl, he⟩⟩ := P10.good hk1 h3 h4
        · exact ⟨T', 40, _, _, G, he, Or.inl ⟨by decide, Or.inr (Or.inr hn)⟩⟩
        · exact ⟨T', 0, _, _, G, he, Or.inr ⟨rfl, rfl, h3, h4, hl, rfl, rfl⟩⟩
  subst he
  have GG := hG0.trans G10
  rw [Nat.zero_add] at GG
  have X10 : Blk w10 (w.heap.size + 1) lightZ 34 := Blk.off2 HL9.out G10.off (by omega) (by omega)
  have hB10 := GG.book
  rcases hcase with ⟨hE0, hwhy⟩ | ⟨rfl, h1, h2, h3, h4, hv, hh2⟩
  · have d0 : decide (E = 0) = false := decide_eq_false hE0
    have d0' : (E == 0) = false := d0
    obtain ⟨W11, hW11, X11, _⟩ := setRow_named X10 lightZ
    clear P10 HV c5 p0 p1
    go_wp2_with ((with_reducible refine st_row (ty := 34) X10 infoLight lightZ_same lightZ_one hW11 ?_ ?_ ?_); rfl; rfl)
    refine bodyPost_ret (v := .tuple #[.agg lightZ, .int .i64 E]) (verify_results X11 rfl rfl) rfl ?_
    exact ⟨T', ⟨GG.ext, GG.len, hB10.row hW11 (by omega) (by omega) (by omega) (by omega), GG.off.row hW11 (by omega)⟩, Or.inl ⟨hwhy, E, hE0, rfl⟩⟩
  · have hzb := HB9.out.size
    have XD10 : Blk w10 w4.heap.size (D.cells (.slice a0 n0 k0)) 54 := Blk.off2 HD9.out G10.off (by omega) (by omega)
    have c2 : w10.cell? ⟨w4.heap.size, 2, none⟩ = some (.int .i64 D.seq) := XD10.cell rfl
    have HVV : Hid _ := hv
    have HHH : Hid _ := hh2
    clear hv hh2
    obtain ⟨W11, hW11, X11, _⟩ := setRow_named X10 #[.int .i64 D.seq, .string vv, .bool hh]
    clear P10 HV c5 p0 p1
    go_wp2_with ((with_reducible refine st_row (ty := 34) X10 (infoLight3 _ _ _) (lgSame _ _ _) (lgOne _ _ _) hW11 ?_ ?_ ?_); rfl; rfl)
    refine bodyPost_ret (v := .tuple #[.agg #[.int .i64 D.seq, .string vv, .bool hh], .int .i64 0]) (verify_results X11 rfl rfl) rfl ?_
    exact ⟨T', ⟨GG.ext, GG.len, hB10.row hW11 (by omega) (by omega) (by omega) (by omega), GG.off.row hW11 (by omega)⟩, Or.inr ⟨h1, h2, h3, h4, by rw [HVV.out, HHH.out]⟩⟩
end Go.Proofs.YtocphdikppeijaaGreat
