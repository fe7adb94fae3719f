/- The whole: the accounts of a room. -/
import Derived.Test.YtpekfpfhonechaaGreatWa51
import Derived.Test.YtpekfpfhonechaaGreatWa41
import Derived.Deep.MidRow
import Derived.Test.YtpekfpfhonechaaGreatWa50
namespace Go.Proofs.YtpekfpfhonechaaGreat
open Go.RowKit
set_option linter.unusedSimpArgs false
set_option linter.unusedVariables false
variable {base : Nat}

theorem st_mid {P : Program} {ops : Array Oper} {rest : List Oper} {dst : Option Tmp} {type : TypeId} {pos : String} {after : Array Edge} {a : Act} {w : World} {Q : Exit → Act → World → Prop} {ty : TypeId} {x y : Operand}
    {k o : Nat} {cs cs' : Array Value} {t : TypeId} (X : Blk w k cs t) (hs : o + cs'.size ≤ cs.size) (hi : (P.info? ty).map (·.size) = some cs'.size) (h1 : cs'.all (·.oneCell') = true) {W : World} (hW : w.setCells k o cs'.toList = W)
    (hx : a.eval x = .pointer (some ⟨k, o, none⟩)) (hy : a.eval y = .agg cs') (h : wpList P ops Q rest (a.put dst undef) W) :
    wpList P ops Q ({ dst := dst, op := .store ty x y, type := type, pos := pos, after := after, guard := none } :: rest) a w := by
  subst hW
  refine wpList_store_mid (op := { dst := dst, op := .store ty x y, type := type, pos := pos, after := after, guard := none }) rfl ty x y rfl k o cs' hx hy (fun j hj => ⟨?_, X.frozen⟩) hi h1 h
  have e : cs[o + j]? = some cs[o + j] := Array.getElem?_eq_getElem (by omega)
  rw [X.cell e]; rfl
def setAllW : Array Value → Nat → List Value → Array Value
  | cs, _, [] => cs
  | cs, o, v :: r => setAllW (cs.setIfInBounds o v) (o + 1) r
theorem blk_setCellsW : ∀ (vs : List Value) (o : Nat) (w : World) (b : Nat) (cs : Array Value) (t : TypeId), Blk w b cs t → Blk (w.setCells b o vs) b (setAllW cs o vs) t
  | [], _, _, _, _, _, h => h
  | v :: r, o, w, b, cs, t, h => by
    rw [World.setCells]
    exact blk_setCellsW r (o + 1) _ b _ t (h.set o v)
theorem off_setCellsW : ∀ (vs : List Value) (o : Nat) (x w : World) (b : Nat), Off b x w → Off b x (w.setCells b o vs)
  | [], _, _, _, _, h => h
  | v :: r, o, x, w, b, h => by
    rw [World.setCells]
    exact off_setCellsW r (o + 1) x _ b (h.setCell (p := ⟨b, o, none⟩) rfl v)
def accL (k : Led.Kt) : List Value := [.int .i64 (k.n 0), .int .i64 (k.n 1), .int .i64 (k.n 2), .int .i64 (k.n 3), .int .i64 (k.n 4), .int .i64 (k.n 5), .int .i64 (k.n 6), .int .i64 (k.n 7), .int .i64 (k.n 8), .int .i64 (k.n 9)]
def a4C (a b c d : Led.Kt) : List Value := accL a ++ (accL b ++ (accL c ++ accL d))
def kTo (l : Ks) (k i : Nat) : Led.Kt := if i < k then Led.kAt l i else Led.Kt.zero
def a4K (l : Ks) (k : Nat) : List Value := a4C (kTo l k 0) (kTo l k 1) (kTo l k 2) (kTo l k 3)
def accs4 (l : Ks) : List Value := a4C (Led.kAt l 0) (Led.kAt l 1) (Led.kAt l 2) (Led.kAt l 3)
theorem a4K_4 (l : Ks) : a4K l 4 = accs4 l := rfl
theorem a4_info (a b c d : Led.Kt) : (Tryz.prog.info? 34).map (·.size) = some (a4C a b c d).toArray.size := by kernel_rfl
theorem a4_one (a b c d : Led.Kt) : (a4C a b c d).toArray.all (·.oneCell') = true := by kernel_rfl
set_option maxRecDepth 100000 in
theorem a4K_set (l : Ks) : ∀ {k : Nat}, k < 4 → setAllW (a4K l k).toArray (k * 10) (accL (Led.kAt l k)) = (a4K l (k + 1)).toArray
  | 0, _ => by kernel_rfl
  | 1, _ => by kernel_rfl
  | 2, _ => by kernel_rfl
  | 3, _ => by kernel_rfl
set_option maxRecDepth 100000 in
set_option maxHeartbeats 2000000 in
theorem accounts_room (w : World) {rb : Nat} {X : Ad} {H : Hs} {s : Nat → Int} (h : Rom w base rb X H s) :
    Calls Tryz.prog 8 #[.pointer (some ⟨rb, 0, none⟩)] w fun e w' => e = .returned (.agg (accs4 H.l).toArray) ∧ Below w.heap.size w w' := by
  obtain ⟨W0, hW0, Z0, Y0, B0⟩ : ∃ W0, ((w.alloc (.cells #[.int .i64 0, .int .i64 0, .int .i64 0, .int .i64 0, .int .i64 0, .int .i64 0, .int .i64 0, .int .i64 0, .int .i64 0, .int .i64 0, .int .i64 0, .int .i64 0, .int .i64 0, .int .i64 0, .int .i64 0, .int .i64 0, .int .i64 0, .int .i64 0, .int .i64 0, .int .i64 0, .int .i64 0, .int .i64 0, .int .i64 0, .int .i64 0, .int .i64 0, .int .i64 0, .int .i64 0, .int .i64 0, .int .i64 0, .int .i64 0, .int .i64 0, .int .i64 0, .int .i64 0, .int .i64 0, .int .i64 0, .int .i64 0, .int .i64 0, .int .i64 0, .int .i64 0, .int .i64 0] 34)).alloc (.cells #[.int .i64 0, .int .i64 0, .int .i64 0, .int .i64 0, .int .i64 0, .int .i64 0, .int .i64 0, .int .i64 0, .int .i64 0, .int .i64 0, .int .i64 0, .int .i64 0, .int .i64 0, .int .i64 0, .int .i64 0, .int .i64 0, .int .i64 0, .int .i64 0, .int .i64 0, .int .i64 0, .int .i64 0, .int .i64 0, .int .i64 0, .int .i64 0, .int .i64 0, .int .i64 0, .int .i64 0, .int .i64 0, .int .i64 0, .int .i64 0, .int .i64 0, .int .i64 0, .int .i64 0, .int .i64 0, .int .i64 0, .int .i64 0, .int .i64 0, .int .i64 0, .int .i64 0, .int .i64 0] 34)) = W0 ∧ Blk W0 w.heap.size (a4C Led.Kt.zero Led.Kt.zero Led.Kt.zero Led.Kt.zero).toArray 34 ∧ Blk W0 (w.heap.size + 1) (a4C Led.Kt.zero Led.Kt.zero Led.Kt.zero Led.Kt.zero).toArray 34 ∧ Below w.heap.size w W0 :=
    ⟨_, rfl, (blk_new _ _ _ _ rfl).alloc _, blk_new _ _ _ _ (by simp), by go_grown⟩
  have HR : Hid (Rom w base rb X H s) := h
  obtain ⟨pX, hpX⟩ : ∃ pX, X.p = pX := ⟨_, rfl⟩
  have c0 : w.cell? ⟨rb, 0, none⟩ = some (.pointer (some ⟨pX, 0, none⟩)) := by rw [← hpX]; exact h.blk.cell rfl
  have HI : Hid (Blk W0 w.heap.size (a4C Led.Kt.zero Led.Kt.zero Led.Kt.zero Led.Kt.zero).toArray 34 ∧ Blk W0 (w.heap.size + 1) (a4K H.l 0).toArray 34 ∧ Below w.heap.size w W0) := ⟨Z0, Y0, B0⟩
  clear Z0 Y0 B0 h
  go_enter Tryz.func8, Tryz.ntmps8
  go_wp2_with fail
  go_loopw [4] (fun i wr => ∃ k : Nat, k ≤ 4 ∧ i = .int .i64 k ∧ Hid (Blk wr w.heap.size (a4C Led.Kt.zero Led.Kt.zero Led.Kt.zero Led.Kt.zero).toArray 34 ∧ Blk wr (w.heap.size + 1) (a4K H.l k).toArray 34 ∧ Below w.heap.size w wr)) (fun i _ => 4 - (intOf i).toNat)
  case atStart => exact ⟨0, by omega, rfl, HI⟩
  case round =>
    clear HI
    obtain ⟨k, hk, rfl, HQ⟩ := hrel
    by_cases hlt : k < 4
    · have hd1 : decide ((k : Int) < 4) = true := by simp only [decide_eq_true_eq]; omega
      obtain ⟨q1, q2, bq⟩ := HQ.out
      have r1 := HR.out.below bq
      have HA : Hid _ := account_hs wr r1.hm.ha k (by omega) (by have := r1.l4; omega)
      rw [hpX, Int.toNat_natCast] at HA
      have d0 : wr.cell? ⟨rb, 0, none⟩ = some (.pointer (some ⟨pX, 0, none⟩)) := (bq.cell (World.block_lt_of_cell? _ _ c0)).trans c0
      have HQ1 : Hid (Blk wr w.heap.size (a4C Led.Kt.zero Led.Kt.zero Led.Kt.zero Led.Kt.zero).toArray 34) := q1
      have HQ2 : Hid (Blk wr (w.heap.size + 1) (a4K H.l k).toArray 34) := q2
      have HB : Hid (Below w.heap.size w wr) := bq
      obtain ⟨kk, hkk⟩ : ∃ kk, Led.kAt H.l k = kk := ⟨_, rfl⟩
      rw [hkk] at HA
      have HK : Hid (Led.kAt H.l k = kk) := hkk
      unfold Led.accV Led.accA at HA
      clear q1 q2 bq r1 HQ hkk
      go_wp2_with fail
      refine Calls.mono HA.out ?_
      rintro e w2 ⟨rfl, b2⟩
      have X2 : Blk (w2.alloc (.cells #[.int .i64 (kk.n 0), .int .i64 (kk.n 1), .int .i64 (kk.n 2), .int .i64 (kk.n 3), .int .i64 (kk.n 4), .int .i64 (kk.n 5), .int .i64 (kk.n 6), .int .i64 (kk.n 7), .int .i64 (kk.n 8), .int .i64 (kk.n 9)] 33)) (w.heap.size + 1) (a4K H.l k).toArray 34 := (HQ2.out.below b2).alloc _
      have Z2 : Blk (w2.alloc (.cells #[.int .i64 (kk.n 0), .int .i64 (kk.n 1), .int .i64 (kk.n 2), .int .i64 (kk.n 3), .int .i64 (kk.n 4), .int .i64 (kk.n 5), .int .i64 (kk.n 6), .int .i64 (kk.n 7), .int .i64 (kk.n 8), .int .i64 (kk.n 9)] 33)) w.heap.size (a4C Led.Kt.zero Led.Kt.zero Led.Kt.zero Led.Kt.zero).toArray 34 := (HQ1.out.below b2).alloc _
      have B2 : Below w.heap.size w (w2.alloc (.cells #[.int .i64 (kk.n 0), .int .i64 (kk.n 1), .int .i64 (kk.n 2), .int .i64 (kk.n 3), .int .i64 (kk.n 4), .int .i64 (kk.n 5), .int .i64 (kk.n 6), .int .i64 (kk.n 7), .int .i64 (kk.n 8), .int .i64 (kk.n 9)] 33)) := (HB.out.trans (b2.mono HB.out.size)).alloc (HB.out.trans (b2.mono HB.out.size)).size _
      obtain ⟨W3, hW3⟩ : ∃ W3, (w2.alloc (.cells #[.int .i64 (kk.n 0), .int .i64 (kk.n 1), .int .i64 (kk.n 2), .int .i64 (kk.n 3), .int .i64 (kk.n 4), .int .i64 (kk.n 5), .int .i64 (kk.n 6), .int .i64 (kk.n 7), .int .i64 (kk.n 8), .int .i64 (kk.n 9)] 33)).setCells (w.heap.size + 1) (k * 10) (#[.int .i64 (kk.n 0), .int .i64 (kk.n 1), .int .i64 (kk.n 2), .int .i64 (kk.n 3), .int .i64 (kk.n 4), .int .i64 (kk.n 5), .int .i64 (kk.n 6), .int .i64 (kk.n 7), .int .i64 (kk.n 8), .int .i64 (kk.n 9)] : Array Value).toList = W3 := ⟨_, rfl⟩
      have o3 : Off (w.heap.size + 1) (w2.alloc (.cells #[.int .i64 (kk.n 0), .int .i64 (kk.n 1), .int .i64 (kk.n 2), .int .i64 (kk.n 3), .int .i64 (kk.n 4), .int .i64 (kk.n 5), .int .i64 (kk.n 6), .int .i64 (kk.n 7), .int .i64 (kk.n 8), .int .i64 (kk.n 9)] 33)) W3 := by rw [← hW3]; exact off_setCellsW _ _ _ _ _ (Off.refl _ _)
      have x3 : Blk W3 (w.heap.size + 1) (a4K H.l (k + 1)).toArray 34 := by
        have e := blk_setCellsW (#[.int .i64 (kk.n 0), .int .i64 (kk.n 1), .int .i64 (kk.n 2), .int .i64 (kk.n 3), .int .i64 (kk.n 4), .int .i64 (kk.n 5), .int .i64 (kk.n 6), .int .i64 (kk.n 7), .int .i64 (kk.n 8), .int .i64 (kk.n 9)] : Array Value).toList (k * 10) _ _ _ _ X2
        rw [hW3] at e
        have e2 := a4K_set H.l hlt
        rw [HK.out] at e2
        rw [← e2]
        exact e
      have HF : Hid (Blk W3 w.heap.size (a4C Led.Kt.zero Led.Kt.zero Led.Kt.zero Led.Kt.zero).toArray 34 ∧ Blk W3 (w.heap.size + 1) (a4K H.l (k + 1)).toArray 34 ∧ Below w.heap.size w W3) :=
        ⟨Z2.off o3 (by omega), x3, o3.below (by omega) B2 B2.size⟩
      have hz1 : k * 10 + (#[.int .i64 (kk.n 0), .int .i64 (kk.n 1), .int .i64 (kk.n 2), .int .i64 (kk.n 3), .int .i64 (kk.n 4), .int .i64 (kk.n 5), .int .i64 (kk.n 6), .int .i64 (kk.n 7), .int .i64 (kk.n 8), .int .i64 (kk.n 9)] : Array Value).size ≤ (a4K H.l k).toArray.size := by
        have : (a4K H.l k).toArray.size = 40 := rfl
        rw [this]
        show k * 10 + 10 ≤ 40
        omega
      have hz2 : (Tryz.prog.info? 33).map (·.size) = some (#[.int .i64 (kk.n 0), .int .i64 (kk.n 1), .int .i64 (kk.n 2), .int .i64 (kk.n 3), .int .i64 (kk.n 4), .int .i64 (kk.n 5), .int .i64 (kk.n 6), .int .i64 (kk.n 7), .int .i64 (kk.n 8), .int .i64 (kk.n 9)] : Array Value).size := Led.accA_info kk
      have hz3 : (#[.int .i64 (kk.n 0), .int .i64 (kk.n 1), .int .i64 (kk.n 2), .int .i64 (kk.n 3), .int .i64 (kk.n 4), .int .i64 (kk.n 5), .int .i64 (kk.n 6), .int .i64 (kk.n 7), .int .i64 (kk.n 8), .int .i64 (kk.n 9)] : Array Value).all (·.oneCell') = true := Led.accA_one kk
      clear x3 o3 Z2 B2 b2 HQ1 HQ2 HB HK HA d0
      go_wp2_with ((with_reducible refine st_mid (ty := 33) (cs' := #[.int .i64 (kk.n 0), .int .i64 (kk.n 1), .int .i64 (kk.n 2), .int .i64 (kk.n 3), .int .i64 (kk.n 4), .int .i64 (kk.n 5), .int .i64 (kk.n 6), .int .i64 (kk.n 7), .int .i64 (kk.n 8), .int .i64 (kk.n 9)]) X2 hz1 hz2 hz3 hW3 ?_ ?_ ?_); rfl; rfl)
      exact ⟨⟨k + 1, by omega, by norm_cast, HF⟩, by simp [intOf]; omega⟩
    · have hd1 : decide ((k : Int) < 4) = false := by simp only [decide_eq_false_iff_not]; omega
      have e4 : k = 4 := by omega
      subst e4
      obtain ⟨q1, q2, bq⟩ := HQ.out
      rw [a4K_4] at q2
      obtain ⟨W3, hW3, X3, B3⟩ : ∃ W3, wr.setRow w.heap.size (accs4 H.l).toArray = W3 ∧ Blk W3 w.heap.size (accs4 H.l).toArray 34 ∧ Below w.heap.size w W3 := ⟨_, rfl, Blk.setRow q1 _, below_setRow bq _ _ (Nat.le_refl _)⟩
      have HB3 : Hid _ := B3
      have i1 : (Tryz.prog.info? 34).map (·.size) = some (accs4 H.l).toArray.size := a4_info _ _ _ _
      have i2 : (accs4 H.l).toArray.all (·.oneCell') = true := a4_one _ _ _ _
      have i3 : (a4C Led.Kt.zero Led.Kt.zero Led.Kt.zero Led.Kt.zero).toArray.size = (accs4 H.l).toArray.size := rfl
      obtain ⟨V, hV⟩ : ∃ V, (accs4 H.l).toArray = V := ⟨_, rfl⟩
      have HV : Hid _ := hV
      rw [hV] at i1 i2 i3 q2 X3 hW3
      have HX : Hid _ := X3
      clear hV bq HQ X3 B3
      have u1 := Tryz.underlying34
      go_wp2_with (first | ((refine rd_row (ty := 34) q2 u1 rfl i1 ?_ ?_); rfl) | ((with_reducible refine st_row (ty := 34) (cs' := V) q1 i1 i3 i2 hW3 ?_ ?_ ?_); rfl; rfl))
      have hZ : W3.heap[w.heap.size]? = some (Obj.cells V 34 (0, 0)) := HX.out
      exact bodyPost_ret (v := .agg V) (results_cell_row Tryz.results8 _ _ w.heap.size 34 V (0, 0) _ (by simp [go_sem]) hZ Tryz.underlying34 rfl i1) rfl ⟨by rw [HV.out], HB3.out⟩
end Go.Proofs.YtpekfpfhonechaaGreat

namespace Go.Proofs.YtpekfpfhonechaaGreat
open Go.RowKit
set_option linter.unusedSimpArgs false
set_option linter.unusedVariables false

def aBusy : Ak := ⟨0, ⟨2, 0, 10, 0, 0, 0⟩⟩
theorem busy_run : (Led.kAt (runW new42 [aBusy]).1.l 0).n 0 = 10 ∧ (runW new42 [aBusy]).2 0 = 1 := by
  have hk : opOk aBusy.o = true := by kernel_rfl
  have h0 : Led.rest (0 : Int) 4 = 0 := by kernel_rfl
  have ho : ofOpR ⟨(opB aBusy.o).toArray⟩ = .ok aBusy.o := of_op aBusy.o hk (by decide)
  have e : roomR new42.1 new42.2 0 aBusy.o = ((doR new42.1 (0 : Nat) (0 + 1) ⟨(opB aBusy.o).toArray⟩).1, (doR new42.1 (0 : Nat) (0 + 1) ⟨(opB aBusy.o).toArray⟩).2.2, up4 new42.2 0 (0 + 1)) := by
    unfold roomR
    rw [if_pos hk, h0]; rfl
  have hr : refR new42.1.l (0 : Nat) (0 + 1) = 0 := by kernel_rfl
  have hq : reqR new42.1 (0 : Nat) ⟨(opB aBusy.o).toArray⟩ = deedR new42.1 (0 : Nat) aBusy.o := by unfold reqR; rw [ho]
  have hd : (doR new42.1 (0 : Nat) (0 + 1) ⟨(opB aBusy.o).toArray⟩).2.2 = doneS (0 : Nat) (0 + 1) (deedR new42.1 (0 : Nat) aBusy.o) (valR new42.1 (0 : Nat) ⟨(opB aBusy.o).toArray⟩) := by
    unfold doR
    rw [if_pos hr, hq]
  have er : runW new42 [aBusy] = ((roomR new42.1 new42.2 0 aBusy.o).2.1, (roomR new42.1 new42.2 0 aBusy.o).2.2) := rfl
  rw [er, e]
  refine ⟨?_, rfl⟩
  show (Led.kAt (doR new42.1 (0 : Nat) (0 + 1) ⟨(opB aBusy.o).toArray⟩).2.2.l 0).n 0 = 10
  rw [hd]
  generalize valR new42.1 (0 : Nat) ⟨(opB aBusy.o).toArray⟩ = V
  kernel_rfl
set_option maxRecDepth 100000 in
set_option maxHeartbeats 2000000 in
theorem busy_calls (w : World) : Calls Tryz.prog 11 #[] w fun e w' => e = .returned (.bool true) ∧ Below w.heap.size w w' := by
  obtain ⟨W0, hW0, A0, B0⟩ : ∃ W0, (w.alloc (.cells #[.int .i64 0, .int .i64 2, .int .i64 0, .int .i64 10, .int .i64 0, .int .i64 0, .float .f64 0] 41)) = W0 ∧ Blk W0 w.heap.size aBusy.cells.toArray 41 ∧ Below w.heap.size w W0 := ⟨_, rfl, blk_new _ _ _ _ rfl, by go_grown⟩
  have hel : Aks W0 (.slice (some ⟨w.heap.size, 0, none⟩) 1 1) [aBusy] := by
    refine Or.inr ⟨w.heap.size, 0, 1, rfl, A0.lt, Nat.le_refl _, fun i hi => ?_⟩
    have e : i = 0 := by simp at hi; omega
    subst e
    refine ⟨fun j u hu => ?_, show (0 : Nat) < _ by decide⟩
    rw [show 0 + 0 * 7 + j = j by omega]
    exact A0.cell (by simpa using hu)
  have HO : Hid _ := open_room _ [aBusy] W0 hel (by decide)
  have HBR : Hid _ := busy_run
  have HB0 : Hid (Below w.heap.size w W0) := B0
  rw [show [aBusy].take 50 = [aBusy] from rfl] at HO
  clear A0 B0 hel
  go_enter Tryz.func11, Tryz.ntmps11
  go_wp2_with fail
  refine Calls.mono HO.out ?_
  rintro e w1 ⟨rb, X, rfl, m1, _, b1⟩
  obtain ⟨h1, h2⟩ := HBR.out
  have c0 : w1.cell? ⟨rb, 0, none⟩ = some (.pointer (some ⟨X.p, 0, none⟩)) := m1.blk.cell rfl
  have c1 : w1.cell? ⟨rb, 1, none⟩ = some (.int .i64 1) := by rw [← h2]; exact m1.blk.cell rfl
  have HA : Hid _ := account_hs w1 m1.hm.ha 0 (by omega) (by have := m1.l4; omega)
  rw [show (0 : Int).toNat = 0 from rfl] at HA
  have HB1 : Hid (Below w.heap.size w w1) := HB0.out.trans (b1.mono HB0.out.size)
  have hlt := m1.blk.lt
  obtain ⟨kk, hkk⟩ : ∃ kk, Led.kAt (runW new42 [aBusy]).1.l 0 = kk := ⟨_, rfl⟩
  rw [hkk] at HA h1
  unfold Led.accV Led.accA at HA
  rw [h1] at HA
  generalize X.p = pX at *
  clear m1 b1 hkk h1 h2 HBR HO HB0
  go_wp2_with fail
  refine Calls.mono HA.out ?_
  rintro e w2 ⟨rfl, b2⟩
  have c1' : w2.cell? ⟨rb, 1, none⟩ = some (.int .i64 1) := (b2.cell hlt).trans c1
  have hlt2 : rb < w2.heap.size := Nat.lt_of_lt_of_le hlt b2.size
  have B2 : Below w.heap.size w w2 := HB1.out.trans (b2.mono HB1.out.size)
  have HB2 : Hid (Below w.heap.size w w2) := B2
  clear B2 b2 c1 c0 HA HB1
  go_wp2_with fail
  go_ret
  exact ⟨rfl, HB2.out.alloc HB2.out.size _⟩
end Go.Proofs.YtpekfpfhonechaaGreat

namespace Go.Proofs.YtpekfpfhonechaaGreat
set_option linter.unusedSimpArgs false
set_option linter.unusedVariables false

theorem enc_z : enc 0 = [0] := by kernel_rfl
theorem fineR_lay (V : Int) : fineR (layR 0 V) = true := by
  have e : (layR 0 V).data.toList = (0 : UInt8) :: enc V.toNat := by
    unfold layR
    rw [show (0 : Int).toNat = 0 from rfl, enc_z]
    simp [ByteArray.data_append]
  unfold fineR
  rw [e]
  rfl
theorem rest_small {w : Nat} (h : w < 4) : Led.rest (w : Int) 4 = w := by
  rcases (show w = 0 ∨ w = 1 ∨ w = 2 ∨ w = 3 by omega) with rfl | rfl | rfl | rfl <;> decide +kernel
/-- Where nothing stands and nothing is on sale, nothing is held or locked. -/
theorem bal_empty {H : Hs} (bal : Bal H) (hb : ∀ i, i < H.g → (H.book i).os = []) (hs : ∀ i, i < H.g → ∀ x : Clo.Au × Int, H.ss[i]? ≠ some (some x)) {w : Nat} (hw : w < H.l.length) : (Led.kAt H.l w).n 1 = 0 ∧ ∀ i, i < H.g → (Led.kAt H.l w).n (6 + i) = 0 := by
  have e1 : ∀ i, i < H.g → hSa H w i = 0 := fun i hi => by
    unfold hSa
    split
    · next x hx => exact absurd hx (hs i hi x)
    · rfl
  have e2 : ∀ i, i < H.g → lSa H w i = 0 := fun i hi => by
    unfold lSa
    split
    · next x hx => exact absurd hx (hs i hi x)
    · rfl
  refine ⟨?_, fun i hi => ?_⟩
  · rw [bal.b.h w hw]
    unfold hcB
    have : ∀ k, k ≤ H.g → Clo.sumTo (hI H w) k = 0 := fun k => by
      induction k with
      | zero => intro _; rfl
      | succ k ih => intro hk; rw [Clo.sumTo, ih (by omega)]; unfold hI; rw [e1 k (by omega), hb k (by omega)]; rfl
    exact this _ (Nat.le_refl _)
  · rw [bal.b.k w hw i hi]
    unfold lkB
    rw [e2 i hi, hb i hi]; rfl
end Go.Proofs.YtpekfpfhonechaaGreat

namespace Go.Proofs.YtpekfpfhonechaaGreat
set_option linter.unusedSimpArgs false
set_option linter.unusedVariables false

/-- Accounts that are worth what they were at a good's price; of the other goods all is as it was. -/
structure Vl (p : Int) (i : Nat) (l l' : Ks) : Prop where
  len : l'.length = l.length
  v : ∀ w, (Led.kAt l' w).n 0 + p * (Led.kAt l' w).n (2 + i) = (Led.kAt l w).n 0 + p * (Led.kAt l w).n (2 + i)
  o : ∀ w j, j ≠ i → j < 4 → (Led.kAt l' w).n (2 + j) = (Led.kAt l w).n (2 + j)
theorem Vl.refl (p : Int) (i : Nat) (l : Ks) : Vl p i l l := ⟨rfl, fun _ => rfl, fun _ _ _ _ => rfl⟩
theorem Vl.trans {p : Int} {i : Nat} {a b c : Ks} (h : Vl p i a b) (k : Vl p i b c) : Vl p i a c :=
  ⟨k.len.trans h.len, fun w => (k.v w).trans (h.v w), fun w j h1 h2 => (k.o w j h1 h2).trans (h.o w j h1 h2)⟩
/-- Accounts whose cash and pieces are as they were. -/
theorem Vl.same {p : Int} {i : Nat} (hi : i < 4) {l l' : Ks} (hl : l'.length = l.length) (h : ∀ w x, x = 0 ∨ 2 ≤ x ∧ x < 6 → (Led.kAt l' w).n x = (Led.kAt l w).n x) : Vl p i l l' :=
  ⟨hl, fun w => by rw [h w 0 (Or.inl rfl), h w (2 + i) (Or.inr ⟨by omega, by omega⟩)], fun w j _ hj => h w (2 + j) (Or.inr ⟨by omega, by omega⟩)⟩
theorem upd_same {l : Ks} {i f : Nat} {v : Int} (hf : f = 1 ∨ 6 ≤ f) (w x : Nat) (hx : x = 0 ∨ 2 ≤ x ∧ x < 6) : (Led.kAt (Led.upd l i f v) w).n x = (Led.kAt l w).n x := by
  by_cases hi : i < l.length
  · rw [Led.upd_at _ _ hi, if_neg (fun h => by omega)]
  · unfold Led.upd
    rw [List.set_eq_of_length_le (by omega)]
theorem bindL_same (g : Nat) (l : Ks) (who thing n : Int) (w x : Nat) (hx : x = 0 ∨ 2 ≤ x ∧ x < 6) : (Led.kAt (bindL g l who thing n) w).n x = (Led.kAt l w).n x := by
  have hg : ∀ (e : Int) (r : Int × Ks), ((Led.kAt r.2 w).n x = (Led.kAt l w).n x) → (Led.kAt (Led.gate e l r).2 w).n x = (Led.kAt l w).n x := fun e r hr => by
    unfold Led.gate
    split
    · exact hr
    · rfl
  have hk : ∀ (i a b : Nat) (m : Int), (b = 1 ∨ 6 ≤ b) → (Led.kAt (Led.keepR l i a b m).2 w).n x = (Led.kAt l w).n x := fun i a b m hb => by
    unfold Led.keepR
    split
    · rfl
    · exact upd_same hb w x hx
  have hl : ∀ (i b : Nat) (m : Int), (b = 1 ∨ 6 ≤ b) → (Led.kAt (Led.looseR l i b m).2 w).n x = (Led.kAt l w).n x := fun i b m hb => by
    unfold Led.looseR
    split
    · rfl
    · exact upd_same hb w x hx
  unfold bindL
  split
  · split
    · exact hg _ _ (hk _ _ _ _ (by omega))
    · exact hg _ _ (hl _ _ _ (by omega))
  · split
    · exact hg _ _ (hk _ _ _ _ (by omega))
    · exact hg _ _ (hl _ _ _ (by omega))
/-- What goes over. -/
theorem over_at {l : Ks} {a b f h : Nat} {m : Int} (ha : a < l.length) (hb : b < l.length) (hf : f ≠ h) (w x : Nat) (hx : x ≠ h) :
    (Led.kAt (Led.over3 l a b f h m) w).n x = (Led.kAt l w).n x + if x = f then (if w = b then m else 0) - (if w = a then m else 0) else 0 := by
  unfold Led.over3 Led.over2 Led.over1
  have q1 := fun w x => Led.upd_at (l := l) (i := a) h ((Led.kAt l a).n h - m) ha w x
  have n1 := Led.upd_len l a h ((Led.kAt l a).n h - m)
  generalize Led.upd l a h ((Led.kAt l a).n h - m) = l1 at *
  have q2 := fun w x => Led.upd_at (l := l1) (i := a) f ((Led.kAt l1 a).n f - m) (by omega) w x
  have n2 := Led.upd_len l1 a f ((Led.kAt l1 a).n f - m)
  generalize Led.upd l1 a f ((Led.kAt l1 a).n f - m) = l2 at *
  rw [Led.upd_at _ _ (by omega)]
  have p1 : ∀ w, (Led.kAt l1 w).n f = (Led.kAt l w).n f := fun w => by rw [q1, if_neg (fun e => hf e.2)]
  have p2 : (Led.kAt l1 w).n x = (Led.kAt l w).n x := by rw [q1, if_neg (fun e => hx e.2)]
  rw [q2 b f, q2 w x, p1 a, p1 b, p2]
  by_cases e : x = f
  · subst e
    by_cases e1 : w = b
    · subst e1
      by_cases e2 : w = a
      · subst e2
        simp only [and_self, if_true]
        omega
      · simp only [e2, false_and, and_self, if_true, if_false]
        omega
    · by_cases e2 : w = a
      · subst e2
        simp only [e1, false_and, and_self, if_true, if_false]
        omega
      · simp only [e1, e2, false_and, and_self, if_true, if_false]
        omega
  · simp only [e, and_false, if_false]
    omega
theorem trade_mv {g : Nat} {l : Ks} {hc : Nat → Int} {lk : Nat → Nat → Int} (b : Bl g l hc lk) (hg : g ≤ 4) {s q : Nat} (hs : s < l.length) (hq : q < l.length) {i : Nat} (hi : i < g) {n p : Int} (hn : 1 ≤ n) (hp : 0 ≤ p) (h1 : n * p ≤ hc q) (h2 : n ≤ lk s i)
    (hb1 : hc q ≤ 1099511627776) (hb2 : lk s i ≤ 1099511627776) : (tradeL g l i s q n p).length = l.length ∧ ∀ w, (Led.kAt (tradeL g l i s q n p) w).n 0 = (Led.kAt l w).n 0 + ((if w = s then n * p else 0) - (if w = q then n * p else 0)) ∧ (Led.kAt (tradeL g l i s q n p) w).n (2 + i) = (Led.kAt l w).n (2 + i) + ((if w = q then n else 0) - (if w = s then n else 0)) ∧ ∀ j, j ≠ i → j < 4 → (Led.kAt (tradeL g l i s q n p) w).n (2 + j) = (Led.kAt l w).n (2 + j) := by
  have hnp : 0 ≤ n * p := Int.mul_nonneg (by omega) hp
  have hl1 : (tradeL1 l s q n p).length = l.length := tradeL1_len _ _ _ _ _
  have hl2 : (tradeL g l i s q n p).length = l.length := tradeL_len _ _ _ _ _ _ _
  have hA : ∀ w x, x ≠ 1 → (Led.kAt (tradeL1 l s q n p) w).n x = (Led.kAt l w).n x + if x = 0 then (if w = s then n * p else 0) - (if w = q then n * p else 0) else 0 := fun w x hx => by
    unfold tradeL1
    generalize n * p = m at *
    by_cases h0 : m < 1
    · rw [gate_no (refE_low h0)]
      have : m = 0 := by omega
      subst this
      simp
    · rw [gate_go (refE_2 hq hs (by omega) (by omega)), Int.toNat_natCast, Int.toNat_natCast]
      have hn1 := b.h q hq
      unfold Led.overR
      rw [if_neg (by omega)]
      exact over_at hq hs (by omega) w x hx
  have hlk : (Led.kAt (tradeL1 l s q n p) s).n (6 + i) = lk s i := by
    rw [hA s (6 + i) (by omega), if_neg (by omega), b.k s hs i hi]
    omega
  have hB : ∀ w x, x ≠ 6 + i → (Led.kAt (tradeL g l i s q n p) w).n x = (Led.kAt (tradeL1 l s q n p) w).n x + if x = 2 + i then (if w = q then n else 0) - (if w = s then n else 0) else 0 := fun w x hx => by
    unfold tradeL
    generalize tradeL1 l s q n p = l1 at *
    have hs1 : s < l1.length := by omega
    have hq1 : q < l1.length := by omega
    rw [gate_go (refG_of (refE_2 hs1 hq1 hn (by omega)) hi), Int.toNat_natCast, Int.toNat_natCast, Int.toNat_natCast]
    unfold Led.overR
    rw [if_neg (by omega)]
    exact over_at hs1 hq1 (by omega) w x hx
  refine ⟨hl2, fun w => ⟨?_, ?_, fun j hj hj4 => ?_⟩⟩
  · rw [hB w 0 (by omega), hA w 0 (by omega), if_neg (show ¬ (0 : Nat) = 2 + i by omega), if_pos rfl]
    omega
  · rw [hB w (2 + i) (by omega), hA w (2 + i) (by omega), if_pos rfl, if_neg (show ¬ 2 + i = 0 by omega)]
    omega
  · rw [hB w (2 + j) (by omega), hA w (2 + j) (by omega), if_neg (by omega), if_neg (by omega)]
    omega
end Go.Proofs.YtpekfpfhonechaaGreat

namespace Go.Proofs.YtpekfpfhonechaaGreat
set_option linter.unusedSimpArgs false
set_option linter.unusedVariables false

theorem mark_same {l : Ks} {who s : Int} {t : ByteArray} (w : Nat) (hw : w < l.length) (x : Nat) (hx : x ≠ 10) : (Led.kAt (Led.markR l who s t).2 w).n x = (Led.kAt l w).n x := by
  have key : ∀ (i : Nat), (Led.kAt (Led.markL l i s t) w).n x = (Led.kAt l w).n x := fun i => by
    by_cases e : w = i
    · subst e
      unfold Led.markL
      rw [Led.kAt_set _ hw, if_pos rfl]
      unfold Led.Kt.mark
      simp only
      rw [if_neg hx]
    · rw [Led.markL_other e]
  unfold Led.markR
  split
  · rfl
  · split
    · rfl
    · split
      · rfl
      · exact key _
theorem tick1_no {E : Hs → Nat → Hs} {H : Hs} {i : Nat} (h : ∀ x : Clo.Au × Int, H.ss[i]? ≠ some (some x)) : tick1 E H i = clr1 H i := by
  unfold tick1
  split
  · next x hx => exact absurd hx (h x)
  · rfl
/-- A tick's ask. -/
def tkO : Oo := ⟨1, 0, 0, 0, 0, 0⟩
theorem deedR_1 (H : Hs) (who : Int) : deedR H who tkO = tickR endR H := by
  unfold deedR
  rw [if_pos (show tkO.k = 1 from rfl)]
/-- One price: who gets n pieces pays it n times. -/
theorem one_price {c n p : Int} (hn : n ≠ 0) (hp : 0 ≤ p) (h : c = p * n) : c.tmod n = 0 ∧ c.tdiv n = p := by
  subst h
  exact ⟨Int.mul_tmod_left _ _, Int.mul_tdiv_cancel _ hn⟩
end Go.Proofs.YtpekfpfhonechaaGreat
