/- The whole: the accounts of a room. -/
import Derived.Test.YtpekfpfhonechaaGreatHw52
import Derived.Test.YtpekfpfhonechaaGreatHw42
import Derived.Deep.MidRow
import Derived.Test.YtpekfpfhonechaaGreatHw51
import Derived.Deep.DeepCutAuto
import Derived.Deep.CutBlock
import Derived.Deep.RegionHeld3
import Derived.Deep.RegionHeld
namespace Go.Proofs.YtpekfpfhonechaaGreat
open Go.RowKit
set_option linter.unusedSimpArgs false
set_option linter.unusedVariables false
variable {base : Nat}

theorem st_mid {P : Program} {ops : Array Oper} {rest : List Oper} {dst : Option Tmp} {type : TypeId} {pos : String} {after : Array Edge} {a : Act} {w : World} {Q : Exit → Act → World → Prop} {ty : TypeId} {x y : Operand}
    {k o : Nat} {cs cs' : Array Value} {t : TypeId} (X : Blk w k cs t) (hs : o + cs'.size ≤ cs.size) (hi : (P.info? ty).map (·.size) = some cs'.size) (h1 : cs'.all (·.oneCell') = true) {W : World} (hW : w.setCells k o cs'.toList = W)
    (hx : a.eval x = .pointer (some ⟨k, o, none⟩)) (hy : a.eval y = .agg cs') (h : wpList P ops Q rest (a.put dst undef) W) :
    wpList P ops Q ({ dst := dst, op := .store ty x y, type := type, pos := pos, after := after, guard := none } :: rest) a w := by
  subst hW
  refine wpList_store_mid (op := { dst := dst, op := .store ty x y, type := type, pos := pos, after := after, guard := none }) rfl ty x y rfl k o cs' hx hy (fun j hj => ⟨?_, X.frozen⟩) hi h1 h
  have e : cs[o + j]? = some cs[o + j] := Array.getElem?_eq_getElem (by omega)
  rw [X.cell e]; rfl
def setAllW : Array Value → Nat → List Value → Array Value
  | cs, _, [] => cs
  | cs, o, v :: r => setAllW (cs.setIfInBounds o v) (o + 1) r
theorem blk_setCellsW : ∀ (vs : List Value) (o : Nat) (w : World) (b : Nat) (cs : Array Value) (t : TypeId), Blk w b cs t → Blk (w.setCells b o vs) b (setAllW cs o vs) t
  | [], _, _, _, _, _, h => h
  | v :: r, o, w, b, cs, t, h => by
    rw [World.setCells]
    exact blk_setCellsW r (o + 1) _ b _ t (h.set o v)
theorem off_setCellsW : ∀ (vs : List Value) (o : Nat) (x w : World) (b : Nat), Off b x w → Off b x (w.setCells b o vs)
  | [], _, _, _, _, h => h
  | v :: r, o, x, w, b, h => by
    rw [World.setCells]
    exact off_setCellsW r (o + 1) x _ b (h.setCell (p := ⟨b, o, none⟩) rfl v)
def accL (k : Led.Kt) : List Value := [.int .i64 (k.n 0), .int .i64 (k.n 1), .int .i64 (k.n 2), .int .i64 (k.n 3), .int .i64 (k.n 4), .int .i64 (k.n 5), .int .i64 (k.n 6), .int .i64 (k.n 7), .int .i64 (k.n 8), .int .i64 (k.n 9)]
def a4C (a b c d : Led.Kt) : List Value := accL a ++ (accL b ++ (accL c ++ accL d))
def kTo (l : Ks) (k i : Nat) : Led.Kt := if i < k then Led.kAt l i else Led.Kt.zero
def a4K (l : Ks) (k : Nat) : List Value := a4C (kTo l k 0) (kTo l k 1) (kTo l k 2) (kTo l k 3)
def accs4 (l : Ks) : List Value := a4C (Led.kAt l 0) (Led.kAt l 1) (Led.kAt l 2) (Led.kAt l 3)
theorem a4K_4 (l : Ks) : a4K l 4 = accs4 l := rfl
theorem a4_info (a b c d : Led.Kt) : (Tryz.prog.info? 34).map (·.size) = some (a4C a b c d).toArray.size := by kernel_rfl
theorem a4_one (a b c d : Led.Kt) : (a4C a b c d).toArray.all (·.oneCell') = true := by kernel_rfl
set_option maxRecDepth 100000 in
theorem a4K_set (l : Ks) : ∀ {k : Nat}, k < 4 → setAllW (a4K l k).toArray (k * 10) (accL (Led.kAt l k)) = (a4K l (k + 1)).toArray
  | 0, _ => by kernel_rfl
  | 1, _ => by kernel_rfl
  | 2, _ => by kernel_rfl
  | 3, _ => by kernel_rfl
set_option maxRecDepth 100000 in
set_option maxHeartbeats 2000000 in
theorem accounts_room (w : World) {rb : Nat} {X : Ad} {H : Hs} {s : Nat → Int} (h : Rom w base rb X H s) :
    Calls Tryz.prog 8 #[.pointer (some ⟨rb, 0, none⟩)] w fun e w' => e = .returned (.agg (accs4 H.l).toArray) ∧ Below w.heap.size w w' := by
  obtain ⟨W0, hW0, Z0, Y0, B0⟩ : ∃ W0, ((w.alloc (.cells #[.int .i64 0, .int .i64 0, .int .i64 0, .int .i64 0, .int .i64 0, .int .i64 0, .int .i64 0, .int .i64 0, .int .i64 0, .int .i64 0, .int .i64 0, .int .i64 0, .int .i64 0, .int .i64 0, .int .i64 0, .int .i64 0, .int .i64 0, .int .i64 0, .int .i64 0, .int .i64 0, .int .i64 0, .int .i64 0, .int .i64 0, .int .i64 0, .int .i64 0, .int .i64 0, .int .i64 0, .int .i64 0, .int .i64 0, .int .i64 0, .int .i64 0, .int .i64 0, .int .i64 0, .int .i64 0, .int .i64 0, .int .i64 0, .int .i64 0, .int .i64 0, .int .i64 0, .int .i64 0] 34)).alloc (.cells #[.int .i64 0, .int .i64 0, .int .i64 0, .int .i64 0, .int .i64 0, .int .i64 0, .int .i64 0, .int .i64 0, .int .i64 0, .int .i64 0, .int .i64 0, .int .i64 0, .int .i64 0, .int .i64 0, .int .i64 0, .int .i64 0, .int .i64 0, .int .i64 0, .int .i64 0, .int .i64 0, .int .i64 0, .int .i64 0, .int .i64 0, .int .i64 0, .int .i64 0, .int .i64 0, .int .i64 0, .int .i64 0, .int .i64 0, .int .i64 0, .int .i64 0, .int .i64 0, .int .i64 0, .int .i64 0, .int .i64 0, .int .i64 0, .int .i64 0, .int .i64 0, .int .i64 0, .int .i64 0] 34)) = W0 ∧ Blk W0 w.heap.size (a4C Led.Kt.zero Led.Kt.zero Led.Kt.zero Led.Kt.zero).toArray 34 ∧ Blk W0 (w.heap.size + 1) (a4C Led.Kt.zero Led.Kt.zero Led.Kt.zero Led.Kt.zero).toArray 34 ∧ Below w.heap.size w W0 :=
    ⟨_, rfl, (blk_new _ _ _ _ rfl).alloc _, blk_new _ _ _ _ (by simp), by go_grown⟩
  have HR : Hid (Rom w base rb X H s) := h
  obtain ⟨pX, hpX⟩ : ∃ pX, X.p = pX := ⟨_, rfl⟩
  have c0 : w.cell? ⟨rb, 0, none⟩ = some (.pointer (some ⟨pX, 0, none⟩)) := by rw [← hpX]; exact h.blk.cell rfl
  have HI : Hid (Blk W0 w.heap.size (a4C Led.Kt.zero Led.Kt.zero Led.Kt.zero Led.Kt.zero).toArray 34 ∧ Blk W0 (w.heap.size + 1) (a4K H.l 0).toArray 34 ∧ Below w.heap.size w W0) := ⟨Z0, Y0, B0⟩
  clear Z0 Y0 B0 h
  go_enter Tryz.func8, Tryz.ntmps8
  go_wp2_with fail
  go_loopw [4] (fun i wr => ∃ k : Nat, k ≤ 4 ∧ i = .int .i64 k ∧ Hid (Blk wr w.heap.size (a4C Led.Kt.zero Led.Kt.zero Led.Kt.zero Led.Kt.zero).toArray 34 ∧ Blk wr (w.heap.size + 1) (a4K H.l k).toArray 34 ∧ Below w.heap.size w wr)) (fun i _ => 4 - (intOf i).toNat)
  case atStart => exact ⟨0, by omega, rfl, HI⟩
  case round =>
    clear HI
    obtain ⟨k, hk, rfl, HQ⟩ := hrel
    by_cases hlt : k < 4
    · have hd1 : decide ((k : Int) < 4) = true := by simp only [decide_eq_true_eq]; omega
      obtain ⟨q1, q2, bq⟩ := HQ.out
      have r1 := HR.out.below bq
      have HA : Hid _ := account_hs wr r1.hm.ha k (by omega) (by have := r1.l4; omega)
      rw [hpX, Int.toNat_natCast] at HA
      have d0 : wr.cell? ⟨rb, 0, none⟩ = some (.pointer (some ⟨pX, 0, none⟩)) := (bq.cell (World.block_lt_of_cell? _ _ c0)).trans c0
      have HQ1 : Hid (Blk wr w.heap.size (a4C Led.Kt.zero Led.Kt.zero Led.Kt.zero Led.Kt.zero).toArray 34) := q1
      have HQ2 : Hid (Blk wr (w.heap.size + 1) (a4K H.l k).toArray 34) := q2
      have HB : Hid (Below w.heap.size w wr) := bq
      obtain ⟨kk, hkk⟩ : ∃ kk, Led.kAt H.l k = kk := ⟨_, rfl⟩
      rw [hkk] at HA
      have HK : Hid (Led.kAt H.l k = kk) := hkk
      unfold Led.accV Led.accA at HA
      clear q1 q2 bq r1 HQ hkk
      go_wp2_with fail
      refine Calls.mono HA.out ?_
      rintro e w2 ⟨rfl, b2⟩
      have X2 : Blk (w2.alloc (.cells #[.int .i64 (kk.n 0), .int .i64 (kk.n 1), .int .i64 (kk.n 2), .int .i64 (kk.n 3), .int .i64 (kk.n 4), .int .i64 (kk.n 5), .int .i64 (kk.n 6), .int .i64 (kk.n 7), .int .i64 (kk.n 8), .int .i64 (kk.n 9)] 33)) (w.heap.size + 1) (a4K H.l k).toArray 34 := (HQ2.out.below b2).alloc _
      have Z2 : Blk (w2.alloc (.cells #[.int .i64 (kk.n 0), .int .i64 (kk.n 1), .int .i64 (kk.n 2), .int .i64 (kk.n 3), .int .i64 (kk.n 4), .int .i64 (kk.n 5), .int .i64 (kk.n 6), .int .i64 (kk.n 7), .int .i64 (kk.n 8), .int .i64 (kk.n 9)] 33)) w.heap.size (a4C Led.Kt.zero Led.Kt.zero Led.Kt.zero Led.Kt.zero).toArray 34 := (HQ1.out.below b2).alloc _
      have B2 : Below w.heap.size w (w2.alloc (.cells #[.int .i64 (kk.n 0), .int .i64 (kk.n 1), .int .i64 (kk.n 2), .int .i64 (kk.n 3), .int .i64 (kk.n 4), .int .i64 (kk.n 5), .int .i64 (kk.n 6), .int .i64 (kk.n 7), .int .i64 (kk.n 8), .int .i64 (kk.n 9)] 33)) := (HB.out.trans (b2.mono HB.out.size)).alloc (HB.out.trans (b2.mono HB.out.size)).size _
      obtain ⟨W3, hW3⟩ : ∃ W3, (w2.alloc (.cells #[.int .i64 (kk.n 0), .int .i64 (kk.n 1), .int .i64 (kk.n 2), .int .i64 (kk.n 3), .int .i64 (kk.n 4), .int .i64 (kk.n 5), .int .i64 (kk.n 6), .int .i64 (kk.n 7), .int .i64 (kk.n 8), .int .i64 (kk.n 9)] 33)).setCells (w.heap.size + 1) (k * 10) (#[.int .i64 (kk.n 0), .int .i64 (kk.n 1), .int .i64 (kk.n 2), .int .i64 (kk.n 3), .int .i64 (kk.n 4), .int .i64 (kk.n 5), .int .i64 (kk.n 6), .int .i64 (kk.n 7), .int .i64 (kk.n 8), .int .i64 (kk.n 9)] : Array Value).toList = W3 := ⟨_, rfl⟩
      have o3 : Off (w.heap.size + 1) (w2.alloc (.cells #[.int .i64 (kk.n 0), .int .i64 (kk.n 1), .int .i64 (kk.n 2), .int .i64 (kk.n 3), .int .i64 (kk.n 4), .int .i64 (kk.n 5), .int .i64 (kk.n 6), .int .i64 (kk.n 7), .int .i64 (kk.n 8), .int .i64 (kk.n 9)] 33)) W3 := by rw [← hW3]; exact off_setCellsW _ _ _ _ _ (Off.refl _ _)
      have x3 : Blk W3 (w.heap.size + 1) (a4K H.l (k + 1)).toArray 34 := by
        have e := blk_setCellsW (#[.int .i64 (kk.n 0), .int .i64 (kk.n 1), .int .i64 (kk.n 2), .int .i64 (kk.n 3), .int .i64 (kk.n 4), .int .i64 (kk.n 5), .int .i64 (kk.n 6), .int .i64 (kk.n 7), .int .i64 (kk.n 8), .int .i64 (kk.n 9)] : Array Value).toList (k * 10) _ _ _ _ X2
        rw [hW3] at e
        have e2 := a4K_set H.l hlt
        rw [HK.out] at e2
        rw [← e2]
        exact e
      have HF : Hid (Blk W3 w.heap.size (a4C Led.Kt.zero Led.Kt.zero Led.Kt.zero Led.Kt.zero).toArray 34 ∧ Blk W3 (w.heap.size + 1) (a4K H.l (k + 1)).toArray 34 ∧ Below w.heap.size w W3) :=
        ⟨Z2.off o3 (by omega), x3, o3.below (by omega) B2 B2.size⟩
      have hz1 : k * 10 + (#[.int .i64 (kk.n 0), .int .i64 (kk.n 1), .int .i64 (kk.n 2), .int .i64 (kk.n 3), .int .i64 (kk.n 4), .int .i64 (kk.n 5), .int .i64 (kk.n 6), .int .i64 (kk.n 7), .int .i64 (kk.n 8), .int .i64 (kk.n 9)] : Array Value).size ≤ (a4K H.l k).toArray.size := by
        have : (a4K H.l k).toArray.size = 40 := rfl
        rw [this]
        show k * 10 + 10 ≤ 40
        omega
      have hz2 : (Tryz.prog.info? 33).map (·.size) = some (#[.int .i64 (kk.n 0), .int .i64 (kk.n 1), .int .i64 (kk.n 2), .int .i64 (kk.n 3), .int .i64 (kk.n 4), .int .i64 (kk.n 5), .int .i64 (kk.n 6), .int .i64 (kk.n 7), .int .i64 (kk.n 8), .int .i64 (kk.n 9)] : Array Value).size := Led.accA_info kk
      have hz3 : (#[.int .i64 (kk.n 0), .int .i64 (kk.n 1), .int .i64 (kk.n 2), .int .i64 (kk.n 3), .int .i64 (kk.n 4), .int .i64 (kk.n 5), .int .i64 (kk.n 6), .int .i64 (kk.n 7), .int .i64 (kk.n 8), .int .i64 (kk.n 9)] : Array Value).all (·.oneCell') = true := Led.accA_one kk
      clear x3 o3 Z2 B2 b2 HQ1 HQ2 HB HK HA d0
      go_wp2_with ((with_reducible refine st_mid (ty := 33) (cs' := #[.int .i64 (kk.n 0), .int .i64 (kk.n 1), .int .i64 (kk.n 2), .int .i64 (kk.n 3), .int .i64 (kk.n 4), .int .i64 (kk.n 5), .int .i64 (kk.n 6), .int .i64 (kk.n 7), .int .i64 (kk.n 8), .int .i64 (kk.n 9)]) X2 hz1 hz2 hz3 hW3 ?_ ?_ ?_); rfl; rfl)
      exact ⟨⟨k + 1, by omega, by norm_cast, HF⟩, by simp [intOf]; omega⟩
    · have hd1 : decide ((k : Int) < 4) = false := by simp only [decide_eq_false_iff_not]; omega
      have e4 : k = 4 := by omega
      subst e4
      obtain ⟨q1, q2, bq⟩ := HQ.out
      rw [a4K_4] at q2
      obtain ⟨W3, hW3, X3, B3⟩ : ∃ W3, wr.setRow w.heap.size (accs4 H.l).toArray = W3 ∧ Blk W3 w.heap.size (accs4 H.l).toArray 34 ∧ Below w.heap.size w W3 := ⟨_, rfl, Blk.setRow q1 _, below_setRow bq _ _ (Nat.le_refl _)⟩
      have HB3 : Hid _ := B3
      have i1 : (Tryz.prog.info? 34).map (·.size) = some (accs4 H.l).toArray.size := a4_info _ _ _ _
      have i2 : (accs4 H.l).toArray.all (·.oneCell') = true := a4_one _ _ _ _
      have i3 : (a4C Led.Kt.zero Led.Kt.zero Led.Kt.zero Led.Kt.zero).toArray.size = (accs4 H.l).toArray.size := rfl
      obtain ⟨V, hV⟩ : ∃ V, (accs4 H.l).toArray = V := ⟨_, rfl⟩
      have HV : Hid _ := hV
      rw [hV] at i1 i2 i3 q2 X3 hW3
      have HX : Hid _ := X3
      clear hV bq HQ X3 B3
      have u1 := Tryz.underlying34
      go_wp2_with (first | ((refine rd_row (ty := 34) q2 u1 rfl i1 ?_ ?_); rfl) | ((with_reducible refine st_row (ty := 34) (cs' := V) q1 i1 i3 i2 hW3 ?_ ?_ ?_); rfl; rfl))
      have hZ : W3.heap[w.heap.size]? = some (Obj.cells V 34 (0, 0)) := HX.out
      exact bodyPost_ret (v := .agg V) (results_cell_row Tryz.results8 _ _ w.heap.size 34 V (0, 0) _ (by simp [go_sem]) hZ Tryz.underlying34 rfl i1) rfl ⟨by rw [HV.out], HB3.out⟩
end Go.Proofs.YtpekfpfhonechaaGreat

namespace Go.Proofs.YtpekfpfhonechaaGreat
open Go.RowKit
set_option linter.unusedSimpArgs false
set_option linter.unusedVariables false

def aBusy : Ak := ⟨0, ⟨2, 0, 10, 0, 0, 0⟩⟩
theorem busy_run : (Led.kAt (runW new42 [aBusy]).1.l 0).n 0 = 10 ∧ (runW new42 [aBusy]).2 0 = 1 := by
  have hk : opOk aBusy.o = true := by kernel_rfl
  have h0 : Led.rest (0 : Int) 4 = 0 := by kernel_rfl
  have ho : ofOpR ⟨(opB aBusy.o).toArray⟩ = .ok aBusy.o := of_op aBusy.o hk (by decide)
  have e : roomR new42.1 new42.2 0 aBusy.o = ((doR new42.1 (0 : Nat) (0 + 1) ⟨(opB aBusy.o).toArray⟩).1, (doR new42.1 (0 : Nat) (0 + 1) ⟨(opB aBusy.o).toArray⟩).2.2, up4 new42.2 0 (0 + 1)) := by
    unfold roomR
    rw [if_pos hk, h0]; rfl
  have hr : refR new42.1.l (0 : Nat) (0 + 1) = 0 := by kernel_rfl
  have hq : reqR new42.1 (0 : Nat) ⟨(opB aBusy.o).toArray⟩ = deedR new42.1 (0 : Nat) aBusy.o := by unfold reqR; rw [ho]
  have hd : (doR new42.1 (0 : Nat) (0 + 1) ⟨(opB aBusy.o).toArray⟩).2.2 = doneS (0 : Nat) (0 + 1) (deedR new42.1 (0 : Nat) aBusy.o) (valR new42.1 (0 : Nat) ⟨(opB aBusy.o).toArray⟩) := by
    unfold doR
    rw [if_pos hr, hq]
  have er : runW new42 [aBusy] = ((roomR new42.1 new42.2 0 aBusy.o).2.1, (roomR new42.1 new42.2 0 aBusy.o).2.2) := rfl
  rw [er, e]
  refine ⟨?_, rfl⟩
  show (Led.kAt (doR new42.1 (0 : Nat) (0 + 1) ⟨(opB aBusy.o).toArray⟩).2.2.l 0).n 0 = 10
  rw [hd]
  generalize valR new42.1 (0 : Nat) ⟨(opB aBusy.o).toArray⟩ = V
  kernel_rfl
set_option maxRecDepth 100000 in
set_option maxHeartbeats 2000000 in
theorem busy_calls (w : World) : Calls Tryz.prog 11 #[] w fun e w' => e = .returned (.bool true) ∧ Below w.heap.size w w' := by
  obtain ⟨W0, hW0, A0, B0⟩ : ∃ W0, (w.alloc (.cells #[.int .i64 0, .int .i64 2, .int .i64 0, .int .i64 10, .int .i64 0, .int .i64 0, .float .f64 0] 41)) = W0 ∧ Blk W0 w.heap.size aBusy.cells.toArray 41 ∧ Below w.heap.size w W0 := ⟨_, rfl, blk_new _ _ _ _ rfl, by go_grown⟩
  have hel : Aks W0 (.slice (some ⟨w.heap.size, 0, none⟩) 1 1) [aBusy] := by
    refine Or.inr ⟨w.heap.size, 0, 1, rfl, A0.lt, Nat.le_refl _, fun i hi => ?_⟩
    have e : i = 0 := by simp at hi; omega
    subst e
    refine ⟨fun j u hu => ?_, show (0 : Nat) < _ by decide⟩
    rw [show 0 + 0 * 7 + j = j by omega]
    exact A0.cell (by simpa using hu)
  have HO : Hid _ := open_room _ [aBusy] W0 hel (by decide)
  have HBR : Hid _ := busy_run
  have HB0 : Hid (Below w.heap.size w W0) := B0
  rw [show [aBusy].take 50 = [aBusy] from rfl] at HO
  clear A0 B0 hel
  go_enter Tryz.func11, Tryz.ntmps11
  go_wp2_with fail
  refine Calls.mono HO.out ?_
  rintro e w1 ⟨rb, X, rfl, m1, _, b1⟩
  obtain ⟨h1, h2⟩ := HBR.out
  have c0 : w1.cell? ⟨rb, 0, none⟩ = some (.pointer (some ⟨X.p, 0, none⟩)) := m1.blk.cell rfl
  have c1 : w1.cell? ⟨rb, 1, none⟩ = some (.int .i64 1) := by rw [← h2]; exact m1.blk.cell rfl
  have HA : Hid _ := account_hs w1 m1.hm.ha 0 (by omega) (by have := m1.l4; omega)
  rw [show (0 : Int).toNat = 0 from rfl] at HA
  have HB1 : Hid (Below w.heap.size w w1) := HB0.out.trans (b1.mono HB0.out.size)
  have hlt := m1.blk.lt
  obtain ⟨kk, hkk⟩ : ∃ kk, Led.kAt (runW new42 [aBusy]).1.l 0 = kk := ⟨_, rfl⟩
  rw [hkk] at HA h1
  unfold Led.accV Led.accA at HA
  rw [h1] at HA
  generalize X.p = pX at *
  clear m1 b1 hkk h1 h2 HBR HO HB0
  go_wp2_with fail
  refine Calls.mono HA.out ?_
  rintro e w2 ⟨rfl, b2⟩
  have c1' : w2.cell? ⟨rb, 1, none⟩ = some (.int .i64 1) := (b2.cell hlt).trans c1
  have hlt2 : rb < w2.heap.size := Nat.lt_of_lt_of_le hlt b2.size
  have B2 : Below w.heap.size w w2 := HB1.out.trans (b2.mono HB1.out.size)
  have HB2 : Hid (Below w.heap.size w w2) := B2
  clear B2 b2 c1 c0 HA HB1
  go_wp2_with fail
  go_ret
  exact ⟨rfl, HB2.out.alloc HB2.out.size _⟩
end Go.Proofs.YtpekfpfhonechaaGreat

namespace Go.Proofs.YtpekfpfhonechaaGreat
set_option linter.unusedSimpArgs false
set_option linter.unusedVariables false

theorem enc_z : enc 0 = [0] := by kernel_rfl
theorem fineR_lay (V : Int) : fineR (layR 0 V) = true := by
  have e : (layR 0 V).data.toList = (0 : UInt8) :: enc V.toNat := by
    unfold layR
    rw [show (0 : Int).toNat = 0 from rfl, enc_z]
    simp [ByteArray.data_append]
  unfold fineR
  rw [e]
  rfl
theorem rest_small {w : Nat} (h : w < 4) : Led.rest (w : Int) 4 = w := by
  rcases (show w = 0 ∨ w = 1 ∨ w = 2 ∨ w = 3 by omega) with rfl | rfl | rfl | rfl <;> decide +kernel
/-- The ask that cancels an order. -/
def cnc (g : Nat) (q : Cal.Od) : Oo := ⟨10, g, 0, 0, q.id.tdiv 16, 0⟩
theorem deedR_10 (H : Hs) (who : Int) (o : Oo) (h : o.k = 10) : deedR H who o = cancelR H who o := by
  unfold deedR
  rw [if_neg (by omega), if_neg (by omega), if_neg (by omega), if_neg (by omega), if_neg (by omega), if_neg (by omega), if_neg (by omega), if_neg (by omega), if_neg (by omega), if_pos h]
theorem book_set {H : Hs} {i j : Nat} {B : Cal.Bo} {l : Ks} (hi : i < H.ms.length) : Hs.book { H with l := l, ms := H.ms.set i B } j = if j = i then B else H.book j := by
  unfold Hs.book
  simp only
  rw [List.getElem?_set]
  by_cases e : i = j
  · rw [if_pos e, if_pos e.symm, if_pos hi]; rfl
  · rw [if_neg e, if_neg (fun h => e h.symm)]
/-- The first order of a market is cancelled by its owner: all goes well, the others stand as they stood. -/
theorem cancel_first {H : Hs} {s : Nat → Int} (gd : Gd H) (bal : Bal H) (hl : H.l.length = 4) (hg : H.g = 2) (st : ∀ i, i < 4 → (Led.kAt H.l i).n 10 = s i) (s0 : ∀ i, i < 4 → 0 ≤ s i) {g : Nat} (hg1 : g < 2) {q : Cal.Od} {r : List Cal.Od} (hb : (H.book g).os = q :: r)
    (hs : s (Led.rest q.own 4) < 1099511627776) :
    fineR (roomR H s q.own (cnc g q)).1 = true ∧ ((roomR H s q.own (cnc g q)).2.1.book g).os = r ∧ (∀ j, j ≠ g → (roomR H s q.own (cnc g q)).2.1.book j = H.book j) ∧ (roomR H s q.own (cnc g q)).2.1.ss = H.ss := by
  obtain ⟨w, x, h1, h2, h3, h4⟩ := bal.od g q (by rw [hb]; exact List.mem_cons_self ..)
  rw [hl] at h2
  have hi : q.id.tdiv 16 = x := by
    rw [Int.tdiv_eq_ediv_of_nonneg (by omega)]
    omega
  have hk : opOk (cnc g q) = true := by
    unfold opOk cnc Oo.ints numOk
    simp only [List.all_cons, List.all_nil, Bool.and_true, Bool.and_eq_true, decide_eq_true_eq]
    rw [hi]
    omega
  have ho : ofOpR ⟨(opB (cnc g q)).toArray⟩ = .ok (cnc g q) := of_op _ hk (by show (0 : Nat) < _; decide)
  rw [h1, rest_small h2] at hs
  have hr : refR H.l w (s w + 1) = 0 := by
    unfold refR
    have a := s0 w h2
    rw [if_neg (by omega), if_neg (by omega), Int.toNat_natCast, st w h2, if_neg (by omega)]
  have hf : Cal.fnd (H.book g).os q.id = (0 : Nat) := by
    rw [hb]
    unfold Cal.fnd Cal.ixf
    simp [List.findIdx_cons]
  have hgt : Cal.gtB (H.book g).os q.id = (q, true) := Cal.gtB_some hf (by rw [hb]; rfl) rfl
  have hx : 16 * q.id.tdiv 16 + (w : Int) = q.id := by rw [hi, h3]
  have hca : (H.book g).cancel q.id w = (0, (H.book g).rem 0) := by
    unfold Cal.Bo.cancel
    rw [hf, if_neg (by omega), hgt]
    simp only
    rw [if_pos h1]
    rfl
  have hc : cancelR H w (cnc g q) = (0, { H with l := bindL H.g H.l w (bndT g q) (-(bndN q)), ms := H.ms.set g ((H.book g).rem 0) }) := by
    unfold cancelR cnc
    simp only
    rw [if_neg (by rw [hg]; omega), if_neg (by omega), Int.toNat_natCast, hx, hgt]
    simp only
    rw [if_neg (by decide), hca]
  have hd : deedR H w (cnc g q) = (0, { H with l := bindL H.g H.l w (bndT g q) (-(bndN q)), ms := H.ms.set g ((H.book g).rem 0) }) := (deedR_10 _ _ _ rfl).trans hc
  have hq : reqR H w ⟨(opB (cnc g q)).toArray⟩ = (0, { H with l := bindL H.g H.l w (bndT g q) (-(bndN q)), ms := H.ms.set g ((H.book g).rem 0) }) := by
    unfold reqR
    rw [ho]
    exact hd
  have hroom : roomR H s q.own (cnc g q) = (layR 0 (valR H w ⟨(opB (cnc g q)).toArray⟩), doneS w (s w + 1) (0, { H with l := bindL H.g H.l w (bndT g q) (-(bndN q)), ms := H.ms.set g ((H.book g).rem 0) }) (valR H w ⟨(opB (cnc g q)).toArray⟩), up4 s w (s w + 1)) := by
    unfold roomR
    rw [if_pos hk, h1, rest_small h2]
    unfold doR
    rw [if_pos hr, hq]
  have hms : g < H.ms.length := by rw [gd.nm, hg]; exact hg1
  rw [hroom]
  generalize valR H w ⟨(opB (cnc g q)).toArray⟩ = V
  refine ⟨fineR_lay V, ?_, fun j hj => ?_, rfl⟩
  · show (Hs.book { H with l := _, ms := H.ms.set g ((H.book g).rem 0) } g).os = r
    rw [book_set hms, if_pos rfl]
    unfold Cal.Bo.rem
    rw [hb]; rfl
  · show Hs.book { H with l := _, ms := H.ms.set g ((H.book g).rem 0) } j = _
    rw [book_set hms, if_neg hj]
/-- Where nothing stands and nothing is on sale, nothing is held or locked. -/
theorem bal_empty {H : Hs} (bal : Bal H) (hb : ∀ i, i < H.g → (H.book i).os = []) (hs : ∀ i, i < H.g → ∀ x : Clo.Au × Int, H.ss[i]? ≠ some (some x)) {w : Nat} (hw : w < H.l.length) : (Led.kAt H.l w).n 1 = 0 ∧ ∀ i, i < H.g → (Led.kAt H.l w).n (6 + i) = 0 := by
  have e1 : ∀ i, i < H.g → hSa H w i = 0 := fun i hi => by
    unfold hSa
    split
    · next x hx => exact absurd hx (hs i hi x)
    · rfl
  have e2 : ∀ i, i < H.g → lSa H w i = 0 := fun i hi => by
    unfold lSa
    split
    · next x hx => exact absurd hx (hs i hi x)
    · rfl
  refine ⟨?_, fun i hi => ?_⟩
  · rw [bal.b.h w hw]
    unfold hcB
    have : ∀ k, k ≤ H.g → Clo.sumTo (hI H w) k = 0 := fun k => by
      induction k with
      | zero => intro _; rfl
      | succ k ih => intro hk; rw [Clo.sumTo, ih (by omega)]; unfold hI; rw [e1 k (by omega), hb k (by omega)]; rfl
    exact this _ (Nat.le_refl _)
  · rw [bal.b.k w hw i hi]
    unfold lkB
    rw [e2 i hi, hb i hi]; rfl
end Go.Proofs.YtpekfpfhonechaaGreat

namespace Go.Proofs.YtpekfpfhonechaaGreat
open Go.RowKit
set_option linter.unusedSimpArgs false
set_option linter.unusedVariables false

/-- Orders that a room's market told of: they stay as they are. -/
def Snp (w : World) (X : Ad) (rb : Nat) (p : Option Addr) (os : List Cal.Od) : Prop :=
  ∀ i o, os[i]? = some o → ∃ q, p = some ⟨q, 0, none⟩ ∧ q < w.heap.size ∧ ¬ X.foot q ∧ q ≠ rb ∧ ∀ j u, (Cal.oC o)[j]? = some u → w.cell? ⟨q, i * 6 + j, none⟩ = some u
theorem Snp.step {w w' : World} {X X' : Ad} {rb : Nat} {p : Option Addr} {os : List Cal.Od} (h : Snp w X rb p os) (t : Rst w w' rb X X') : Snp w' X' rb p os := fun i o hi => by
  obtain ⟨q, h1, h2, h3, h4, h5⟩ := h i o hi
  refine ⟨q, h1, Nat.lt_of_lt_of_le h2 t.chg.size, fun hf => ?_, h4, fun j u hu => Chg.cell t.chg (h5 j u hu) (fun e => ?_)⟩
  · rcases t.at_ q hf with e | e
    · exact h3 e
    · omega
  · rcases e with e | e
    · exact h3 e
    · exact h4 e
theorem Snp.below {w w' : World} {X : Ad} {rb : Nat} {p : Option Addr} {os : List Cal.Od} (h : Snp w X rb p os) (t : Below w.heap.size w w') : Snp w' X rb p os := h.step (Rst.of_below t)
theorem snp_of {w w' : World} {X : Ad} {H : Hs} {base rb : Nat} {cs : Array Value} {tr t : TypeId} {v : Value} {os : List Cal.Od} (m : Hm w base X H) (hr : Blk w rb cs tr) (h : w'.ownsRow w.heap.size t 6 v os.length (Cal.odL os)) :
    ∃ p cap, v = .slice p os.length cap ∧ os.length ≤ cap ∧ Snp w' X rb p os := by
  have hrl := hr.lt
  rcases h.2 with ⟨h1, h2⟩ | ⟨g, cap, cur, h1, h2, h3, h4, h5, h6, h7⟩
  · refine ⟨none, 0, by rw [h1, h2], by omega, fun i o hi => ?_⟩
    have := (List.getElem?_eq_some_iff.1 hi).1
    omega
  · refine ⟨_, cap, h1, by first | exact h4 | exact h5 | omega, fun i o hi => ⟨g, rfl, ?_, fun hf => ?_, by omega, fun j u hu => ?_⟩⟩
    · by_cases e : g < w'.heap.size
      · exact e
      · rw [Array.getElem?_eq_none (by omega)] at h3
        cases h3
    · have := m.foot_lt g hf
      omega
    · have := h.cells (g := g) (by rw [h1]; rfl) (i * 6 + j) u (Cal.odL_get os i j o u hi hu)
      have e : (⟨g, 0, none⟩ : Addr).add (i * 6 + j) = ⟨g, i * 6 + j, none⟩ := by unfold Addr.add; split <;> simp_all
      rw [e] at this
      exact this
/-- Behind k markets. -/
def EndS (w wr : World) (rb k : Nat) : Prop := ∃ X H s, Rom wr w.heap.size rb X H s ∧ (∀ i, s i ≤ 50 + 64 * (k : Int)) ∧ (∀ i, i < k → (H.book i).os = [] ∧ ∀ x : Clo.Au × Int, H.ss[i]? ≠ some (some x)) ∧ Below w.heap.size w wr
/-- Behind j orders of the market k. -/
def InS (w wr : World) (rb k j : Nat) (p : Option Addr) (os : List Cal.Od) : Prop := ∃ X H s, Rom wr w.heap.size rb X H s ∧ (∀ i, s i ≤ 50 + 64 * (k : Int) + j) ∧ (H.book k).os = os.drop j ∧ (∀ i, i < k → (H.book i).os = [] ∧ ∀ x : Clo.Au × Int, H.ss[i]? ≠ some (some x)) ∧ Snp wr X rb p os ∧ Below w.heap.size w wr
set_option maxRecDepth 100000 in
set_option maxHeartbeats 4000000 in
theorem ends_calls (v : Value) (ls : List Ak) (w : World) (hl : Aks w v ls) (hz : ls.length * 56 ≤ 140737488351232) :
    Calls Tryz.prog 5 #[v] w fun e w' => e = .returned (.bool true) ∧ Below w.heap.size w w' := by
  have HO : Hid _ := open_room v ls w hl hz
  clear hl hz
  go_enter Tryz.func5, Tryz.ntmps5
  go_wp2_with fail
  refine Calls.mono HO.out ?_
  rintro e w1 ⟨rb, X, rfl, m1, u1, b1⟩
  have HI : Hid (EndS w w1 rb 0) := ⟨X, _, _, m1, fun i => by have := u1 i; omega, fun i hi => absurd hi (Nat.not_lt_zero _), b1⟩
  clear m1 u1 b1 HO
  go_wp2_with fail
  go_loopw [5] (fun i wr => ∃ k : Nat, k ≤ 2 ∧ i = .int .i64 k ∧ Hid (EndS w wr rb k)) (fun i _ => 2 - (intOf i).toNat)
  case atStart => exact ⟨0, by omega, rfl, HI⟩
  case round =>
    clear HI
    obtain ⟨k, hk, rfl, HQ⟩ := hrel
    by_cases hlt : k < 2
    · have hd1 : decide ((k : Int) < 2) = true := by simp only [decide_eq_true_eq]; omega
      obtain ⟨X1, H1, s1, m1, u1, f1, b1⟩ := HQ.out
      have c0 : wr.cell? ⟨rb, 0, none⟩ = some (.pointer (some ⟨X1.p, 0, none⟩)) := m1.blk.cell rfl
      obtain ⟨B, hB⟩ : ∃ B, H1.ms[k]? = some B := ⟨_, List.getElem?_eq_getElem (by rw [m1.hm.mks.nm, m1.g2]; exact hlt)⟩
      have HM : Hid _ := market_hs wr m1.hm k (by rw [m1.g2]; exact hlt) hB
      have hbk : H1.book k = B := by unfold Hs.book; rw [hB]; rfl
      have hlen : B.os.length ≤ 64 := by rw [← hbk]; exact ((m1.hm.gd m1.pst).bk k).len
      have HQ1 : Hid (Rom wr w.heap.size rb X1 H1 s1 ∧ (∀ i, s1 i ≤ 50 + 64 * (k : Int)) ∧ (∀ i, i < k → (H1.book i).os = [] ∧ ∀ x : Clo.Au × Int, H1.ss[i]? ≠ some (some x)) ∧ Below w.heap.size w wr ∧ H1.book k = B) := ⟨m1, u1, f1, b1, hbk⟩
      clear m1 u1 f1 b1 HQ hB hbk
      go_wp2_with fail
      refine Calls.mono HM.out ?_
      rintro e w2 ⟨v', rfl, O2, b2⟩
      obtain ⟨m1, u1, f1, b1, hbk⟩ := HQ1.out
      obtain ⟨p, cap, rfl, hcap, sn⟩ := snp_of m1.hm m1.blk O2
      obtain ⟨n, hn⟩ : ∃ n, B.os.length = n := ⟨_, rfl⟩
      have HN : Hid (B.os.length = n) := hn
      rw [hn] at hlen hcap ⊢
      have HI2 : Hid (InS w w2 rb k 0 p B.os) := ⟨X1, H1, s1, m1.below b2, fun i => by have := u1 i; omega, by rw [hbk]; rfl, f1, sn, b1.trans (b2.mono b1.size)⟩
      clear m1 u1 f1 b1 hbk O2 b2 sn HQ1 HM c0 hn
      go_wp2_with fail
      go_loopw [7] (fun i wr => ∃ j : Nat, j ≤ n ∧ i = .int .i64 j ∧ Hid (InS w wr rb k j p B.os)) (fun i _ => n - (intOf i).toNat)
      case atStart => exact ⟨0, by omega, rfl, HI2⟩
      case round =>
        clear HI2
        obtain ⟨j, hj, rfl, HQ⟩ := hrel
        by_cases hjl : j < n
        · have hd2 : decide ((j : Int) < n) = true := by simp only [decide_eq_true_eq]; omega
          obtain ⟨X1, H1, s1, m1, u1, e1, f1, sn, b1⟩ := HQ.out
          have hjl' : j < B.os.length := by rw [HN.out]; exact hjl
          obtain ⟨q, rfl, q1, q2, q3, q4⟩ := sn j _ (List.getElem?_eq_getElem hjl')
          rw [List.drop_eq_getElem_cons hjl'] at e1
          obtain ⟨o, ho⟩ : ∃ o, B.os[j] = o := ⟨_, rfl⟩
          rw [ho] at e1 q4
          have hs : s1 (Led.rest o.own 4) < 1099511627776 := by have := u1 (Led.rest o.own 4); omega
          obtain ⟨g1, g2, g3, g4⟩ := cancel_first (m1.hm.gd m1.pst) m1.bal m1.l4 m1.g2 m1.st m1.s0 hlt e1 hs
          have hup := fun i => roomR_up H1 s1 o.own (cnc k o) i
          have HDo : Hid _ := fun wx hm hB => do_room (base := w.heap.size) wx (rb := rb) (X := X1) (H := H1) (s := s1) hm hB o.own (cnc k o) (by show (0 : Nat) < _; decide) hs
          obtain ⟨R, hR⟩ : ∃ R, roomR H1 s1 o.own (cnc k o) = R := ⟨_, rfl⟩
          rw [hR] at g1 g2 g3 g4 hup HDo
          have HFi : Hid _ := fun wx => fine_calls R.1 wx
          rw [g1] at HFi
          have d0 : wr.cell? ⟨q, j * 6, none⟩ = some (.int .i64 o.id) := q4 0 _ rfl
          have d1 : wr.cell? ⟨q, j * 6 + 1, none⟩ = some (.int .i64 o.own) := q4 1 _ rfl
          have hnf : ¬ (fun z => X1.foot z ∨ z = rb) q := fun e => by
            rcases e with e | e
            · exact q2 e
            · exact q3 e
          have HF : Hid (∀ w' X', Rom w' w.heap.size rb X' R.2.1 R.2.2 → Rst wr w' rb X1 X' → InS w w' rb k (j + 1) (some ⟨q, 0, none⟩) B.os) := fun w' X' hm ht =>
            ⟨X', _, _, hm, fun i => by have h1 := hup i; have h2 := u1 i; omega, g2, fun i hi => by rw [g3 i (by omega), g4]; exact f1 i hi, sn.step ht, ht.old m1 b1 b1.size⟩
          have HM1 : Hid (Rom wr w.heap.size rb X1 H1 s1) := m1
          have hzr := b1.size
          have HZ : Hid (o.id.tdiv 16 = (cnc k o).i) := rfl
          unfold cnc at HDo HZ
          dsimp only at HDo HZ
          generalize hzz : o.id.tdiv 16 = z at *
          have HZZ : Hid _ := hzz
          have hwz : IntKind.i64.wrap z = z := by
            obtain ⟨ww, x, h1, h2, h3, h4⟩ := m1.bal.od k o (by rw [e1]; exact List.mem_cons_self ..)
            have hl4 := m1.l4
            rw [Int.tdiv_eq_ediv_of_nonneg (by omega)] at hzz
            rw [IntKind.wrap_i64]
            omega
          have hzi : o.id.tdiv 16 = z := hzz
          generalize o.own = ow at *
          generalize o.id = id at *
          obtain ⟨rp, H2, s2⟩ := R
          dsimp only at HDo HFi HF
          clear m1 u1 e1 f1 sn b1 hjl' q4 ho g1 g2 g3 g4 hup hR hzz hs HQ q1 q2 q3
          go_upto_region 11 with fail
          refine wp_region_held_drew (S := (fun wx => Chg (fun z => X1.foot z ∨ z = rb) wr wx)) (by kernel_rfl) (Chg.of_below (Below.refl wr.heap.size wr) : Chg (fun z => X1.foot z ∨ z = rb) wr wr).drew (fun hS => ?_)
          refine tkG (i := 0) (v := .pointer (some ⟨rb, 0, none⟩)) rfl hS ?_
          refine tkG (i := 1) (v := .slice (some ⟨q, 0, none⟩) n cap) rfl hS ?_
          refine tkG (i := 2) (v := .int .i64 j) rfl hS ?_
          refine tkG (i := 3) (v := .pointer (some ⟨q, j * 6, none⟩)) rfl hS ?_
          refine tkG (i := 4) (v := .pointer (some ⟨q, j * 6 + 1, none⟩)) rfl hS ?_
          refine tkH (i := 5) (v := .int .i64 ow) rfl (fun w3 hS => by have e0 : w3.cell? ⟨q, j * 6 + 1, none⟩ = some (.int .i64 ow) := Chg.cell hS d1 hnf; go_simp) hS ?_
          refine tkG (i := 6) (v := .int .i64 k) rfl hS ?_
          refine tkG (i := 7) (v := .slice (some ⟨q, 0, none⟩) n cap) rfl hS ?_
          refine tkG (i := 8) (v := .int .i64 j) rfl hS ?_
          refine tkG (i := 9) (v := .pointer (some ⟨q, j * 6, none⟩)) rfl hS ?_
          refine tkG (i := 10) (v := .pointer (some ⟨q, j * 6, none⟩)) rfl hS ?_
          refine tkH (i := 11) (v := .int .i64 id) rfl (fun w3 hS => by have e0 : w3.cell? ⟨q, j * 6, none⟩ = some (.int .i64 id) := Chg.cell hS d0 hnf; go_simp) hS ?_
          refine tkG (i := 12) (v := .int .i64 z) rfl hS ?_
          refine tkG (i := 13) (v := .agg #[.int .i64 10, .int .i64 k, .int .i64 0, .int .i64 0, .int .i64 z, .float .f64 0]) rfl hS ?_
          refine tkG (i := 14) (v := .agg #[.int .i64 ow, .int .i64 10, .int .i64 k, .int .i64 0, .int .i64 0, .int .i64 z, .float .f64 0]) rfl hS ?_
          refine wpAnyH_ready (rs := [15]) (by kernel_rfl) (by simp) ?_
          refine AllReadyH.cons rfl (fun K hK => ?_) AllReadyH.nil
          go_simp
          refine (HDo.out _ (HM1.out.below (Below.refl _ _).drew) hzr).mono ?_
          rintro e w4 ⟨rfl, X4, m4, t4, p4⟩
          have T4 : Rst wr w4 rb X1 X4 := (Rst.of_below (Below.refl _ _).drew).trans t4
          refine hK.out _ _ T4.chg (fun hS => ?_)
          clear hK
          refine wpAnyH_ready (rs := [16]) (by kernel_rfl) (by simp) ?_
          refine AllReadyH.cons rfl (fun K hK => ?_) AllReadyH.nil
          go_simp
          refine (HFi.out _).mono ?_
          rintro e w5 ⟨rfl, rfl⟩
          refine hK.out _ _ T4.chg (fun hS => ?_)
          clear hK
          refine tkG (i := 17) (v := .bool false) rfl hS ?_
          refine wpAnyH_done (by kernel_rfl) ?_ _
          have HE : Hid (InS w w5 rb k (j + 1) (some ⟨q, 0, none⟩) B.os) := HF.out _ _ m4 T4
          clear m4 t4 p4 T4 HF HDo HFi HM1 d0 d1 hnf
          go_wp2
          exact ⟨⟨j + 1, by omega, by norm_cast, HE⟩, by simp [intOf]; omega⟩
        · have hd2 : decide ((j : Int) < n) = false := by simp only [decide_eq_false_iff_not]; omega
          have ej : j = n := by omega
          subst ej
          obtain ⟨X1, H1, s1, m1, u1, e1, f1, sn, b1⟩ := HQ.out
          rw [List.drop_of_length_le (by rw [HN.out]; exact Nat.le_refl _)] at e1
          have c0 : wr.cell? ⟨rb, 0, none⟩ = some (.pointer (some ⟨X1.p, 0, none⟩)) := m1.blk.cell rfl
          have HA : Hid _ := auction_hs wr m1.hm k (by rw [m1.g2]; exact hlt)
          have HQ1 : Hid (Rom wr w.heap.size rb X1 H1 s1 ∧ (∀ i, s1 i ≤ 50 + 64 * (k : Int) + j) ∧ (H1.book k).os = [] ∧ (∀ i, i < k → (H1.book i).os = [] ∧ ∀ x : Clo.Au × Int, H1.ss[i]? ≠ some (some x)) ∧ Below w.heap.size w wr) := ⟨m1, u1, e1, f1, b1⟩
          have HB1 : Hid (Below w.heap.size w wr) := b1
          clear m1 u1 e1 f1 sn b1 HQ
          cases hon : (aucR H1 k).2.2
          · have HON : Hid ((aucR H1 k).2.2 = false) := hon
            rw [hon] at HA
            generalize (aucR H1 k).1 = at1 at *
            generalize (aucR H1 k).2.1 = at2 at *
            clear hon
            go_wp2_with fail
            refine Calls.mono HA.out ?_
            rintro e w2 ⟨rfl, b2⟩
            have HE : Hid (EndS w w2 rb (k + 1)) := by
              obtain ⟨m1, u1, e1, f1, b1⟩ := HQ1.out
              refine ⟨X1, H1, s1, m1.below b2, fun i => by have := u1 i; omega, fun i hi => ?_, b1.trans (b2.mono b1.size)⟩
              by_cases e : i = k
              · subst e
                refine ⟨e1, fun x hx => ?_⟩
                have := HON.out
                unfold aucR at this
                rw [hx] at this
                cases this
              · exact f1 i (by omega)
            clear HQ1 HA c0 HON b2
            go_wp2
            exact ⟨⟨k + 1, by omega, by norm_cast, HE⟩, by simp [intOf]; omega⟩
          · rw [hon] at HA
            generalize (aucR H1 k).1 = at1 at *
            generalize (aucR H1 k).2.1 = at2 at *
            clear hon HQ1
            go_wp2_with fail
            refine Calls.mono HA.out ?_
            rintro e w2 ⟨rfl, b2⟩
            have HBu : Hid _ := busy_calls w2
            have HB2 : Hid (Below w.heap.size w w2) := HB1.out.trans (b2.mono HB1.out.size)
            clear HA c0 b2 HB1
            go_wp2_with fail
            refine Calls.mono HBu.out ?_
            rintro e w3 ⟨rfl, b3⟩
            have B3 : Below w.heap.size w w3 := HB2.out.trans (b3.mono HB2.out.size)
            go_wp2
            go_ret
            exact ⟨rfl, B3⟩
    · have hd1 : decide ((k : Int) < 2) = false := by simp only [decide_eq_false_iff_not]; omega
      have ek : k = 2 := by omega
      subst ek
      obtain ⟨X1, H1, s1, m1, u1, f1, b1⟩ := HQ.out
      have HA : Hid _ := accounts_room wr m1
      have hz : ∀ i, i < 4 → (Led.kAt H1.l i).n 1 = 0 ∧ ∀ j, j < 4 → (Led.kAt H1.l i).n (6 + j) = 0 := fun i hi => by
        have h1 := bal_empty m1.bal (fun i hi => (f1 i (by rw [m1.g2] at hi; exact hi)).1) (fun i hi => (f1 i (by rw [m1.g2] at hi; exact hi)).2) (w := i) (by rw [m1.l4]; exact hi)
        refine ⟨h1.1, fun j hj => ?_⟩
        by_cases hj2 : j < 2
        · exact h1.2 j (by rw [m1.g2]; exact hj2)
        · have hI := m1.hm.ha.lg.inv
          have := hI.none i (by rw [m1.l4]; exact hi) (2 + j) (by rw [m1.g2]; omega) (by omega)
          have h2 := hI.held i (by rw [m1.l4]; exact hi) _ _ (partGd (q := j) (by omega))
          omega
      have HZ : Hid _ := hz
      have HB1 : Hid (Below w.heap.size w wr) := b1
      clear m1 u1 f1 b1 HQ hz
      go_wp2_with fail
      refine Calls.mono HA.out ?_
      rintro e w2 ⟨rfl, b2⟩
      have B2 : Below w.heap.size w w2 := HB1.out.trans (b2.mono HB1.out.size)
      obtain ⟨W3, hW3⟩ : ∃ W3, (w2.alloc (.cells #[.int .i64 0, .int .i64 0, .int .i64 0, .int .i64 0, .int .i64 0, .int .i64 0, .int .i64 0, .int .i64 0, .int .i64 0, .int .i64 0, .int .i64 0, .int .i64 0, .int .i64 0, .int .i64 0, .int .i64 0, .int .i64 0, .int .i64 0, .int .i64 0, .int .i64 0, .int .i64 0, .int .i64 0, .int .i64 0, .int .i64 0, .int .i64 0, .int .i64 0, .int .i64 0, .int .i64 0, .int .i64 0, .int .i64 0, .int .i64 0, .int .i64 0, .int .i64 0, .int .i64 0, .int .i64 0, .int .i64 0, .int .i64 0, .int .i64 0, .int .i64 0, .int .i64 0, .int .i64 0] 34)).setRow w2.heap.size (accs4 H1.l).toArray = W3 := ⟨_, rfl⟩
      have X2 : Blk (w2.alloc (.cells #[.int .i64 0, .int .i64 0, .int .i64 0, .int .i64 0, .int .i64 0, .int .i64 0, .int .i64 0, .int .i64 0, .int .i64 0, .int .i64 0, .int .i64 0, .int .i64 0, .int .i64 0, .int .i64 0, .int .i64 0, .int .i64 0, .int .i64 0, .int .i64 0, .int .i64 0, .int .i64 0, .int .i64 0, .int .i64 0, .int .i64 0, .int .i64 0, .int .i64 0, .int .i64 0, .int .i64 0, .int .i64 0, .int .i64 0, .int .i64 0, .int .i64 0, .int .i64 0, .int .i64 0, .int .i64 0, .int .i64 0, .int .i64 0, .int .i64 0, .int .i64 0, .int .i64 0, .int .i64 0] 34)) w2.heap.size #[.int .i64 0, .int .i64 0, .int .i64 0, .int .i64 0, .int .i64 0, .int .i64 0, .int .i64 0, .int .i64 0, .int .i64 0, .int .i64 0, .int .i64 0, .int .i64 0, .int .i64 0, .int .i64 0, .int .i64 0, .int .i64 0, .int .i64 0, .int .i64 0, .int .i64 0, .int .i64 0, .int .i64 0, .int .i64 0, .int .i64 0, .int .i64 0, .int .i64 0, .int .i64 0, .int .i64 0, .int .i64 0, .int .i64 0, .int .i64 0, .int .i64 0, .int .i64 0, .int .i64 0, .int .i64 0, .int .i64 0, .int .i64 0, .int .i64 0, .int .i64 0, .int .i64 0, .int .i64 0] 34 := blk_new _ _ _ _ rfl
      have X3 : Blk W3 w2.heap.size (accs4 H1.l).toArray 34 := by rw [← hW3]; exact Blk.setRow X2 _
      have B3 : Below w.heap.size w W3 := by rw [← hW3]; exact below_setRow (B2.alloc B2.size _) _ _ B2.size
      have i1 : (Tryz.prog.info? 34).map (·.size) = some (accs4 H1.l).toArray.size := a4_info _ _ _ _
      have i2 : (accs4 H1.l).toArray.all (·.oneCell') = true := a4_one _ _ _ _
      have i3 : (#[.int .i64 0, .int .i64 0, .int .i64 0, .int .i64 0, .int .i64 0, .int .i64 0, .int .i64 0, .int .i64 0, .int .i64 0, .int .i64 0, .int .i64 0, .int .i64 0, .int .i64 0, .int .i64 0, .int .i64 0, .int .i64 0, .int .i64 0, .int .i64 0, .int .i64 0, .int .i64 0, .int .i64 0, .int .i64 0, .int .i64 0, .int .i64 0, .int .i64 0, .int .i64 0, .int .i64 0, .int .i64 0, .int .i64 0, .int .i64 0, .int .i64 0, .int .i64 0, .int .i64 0, .int .i64 0, .int .i64 0, .int .i64 0, .int .i64 0, .int .i64 0, .int .i64 0, .int .i64 0] : Array Value).size = (accs4 H1.l).toArray.size := rfl
      have HC : Hid (∀ i : Nat, i < 4 → W3.cell? ⟨w2.heap.size, i * 10 + 1, none⟩ = some (.int .i64 0) ∧ W3.cell? ⟨w2.heap.size, i * 10 + 6, none⟩ = some (.int .i64 0) ∧ W3.cell? ⟨w2.heap.size, i * 10 + 7, none⟩ = some (.int .i64 0) ∧ W3.cell? ⟨w2.heap.size, i * 10 + 8, none⟩ = some (.int .i64 0) ∧ W3.cell? ⟨w2.heap.size, i * 10 + 9, none⟩ = some (.int .i64 0)) := fun i hi => by
        obtain ⟨z1, z2⟩ := HZ.out i hi
        have y0 := z2 0 (by omega)
        have y1 := z2 1 (by omega)
        have y2 := z2 2 (by omega)
        have y3 := z2 3 (by omega)
        rcases (show i = 0 ∨ i = 1 ∨ i = 2 ∨ i = 3 by omega) with rfl | rfl | rfl | rfl
        all_goals exact ⟨by rw [← z1]; exact X3.cell rfl, by rw [← y0]; exact X3.cell rfl, by rw [← y1]; exact X3.cell rfl, by rw [← y2]; exact X3.cell rfl, by rw [← y3]; exact X3.cell rfl⟩
      obtain ⟨V, hV⟩ : ∃ V, (accs4 H1.l).toArray = V := ⟨_, rfl⟩
      rw [hV] at i1 i2 i3 hW3 ⊢
      have HB3 : Hid _ := B3
      clear X3 B3 B2 b2 HZ HB1 hV HA
      go_wp2_with ((with_reducible refine st_row (ty := 34) (cs' := V) X2 i1 i3 i2 hW3 ?_ ?_ ?_); rfl; rfl)
      clear hW3 X2 i1 i2 i3
      generalize w2.heap.size = bq at *
      go_loopw [12] (fun i wr => ∃ j : Nat, j ≤ 4 ∧ i = .int .i64 j ∧ wr = W3) (fun i _ => 4 - (intOf i).toNat)
      case atStart => exact ⟨0, by omega, rfl, rfl⟩
      case round =>
        obtain ⟨j, hj, rfl, rfl⟩ := hrel
        by_cases hj4 : j < 4
        · have hd2 : decide ((j : Int) < 4) = true := by simp only [decide_eq_true_eq]; omega
          obtain ⟨c1, c2, c3, c4, c5⟩ := HC.out j hj4
          have hEq : (Op.equalIn 10000 28 (.agg #[.int .i64 0, .int .i64 0, .int .i64 0, .int .i64 0]) (.agg #[.int .i64 0, .int .i64 0, .int .i64 0, .int .i64 0])).run Tryz.prog wr = .ok true wr := by kernel_rfl
          go_wp2
          exact ⟨⟨j + 1, by omega, by norm_cast, by first | trivial | rfl⟩, by simp [intOf]; omega⟩
        · have hd2 : decide ((j : Int) < 4) = false := by simp only [decide_eq_false_iff_not]; omega
          have HBu : Hid _ := busy_calls wr
          go_wp2_with fail
          refine Calls.mono HBu.out ?_
          rintro e w3 ⟨rfl, b3⟩
          have B4 : Below w.heap.size w w3 := HB3.out.trans (b3.mono HB3.out.size)
          go_wp2
          go_ret
          exact ⟨rfl, B4⟩
end Go.Proofs.YtpekfpfhonechaaGreat
