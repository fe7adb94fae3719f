/- The example of chapter 9, as plain data. -/
import Derived.Test.YtladgfngddgnlaaGreatDoorHy37
import Derived.Test.YtladgfngddgnlaaGreatDoorHy38
import Derived.Test.YtladgfngddgnlaaGreatDoorHy39
import Derived.Test.YtladgfngddgnlaaGreatDoorHy05
import Derived.Deep.RegionHeld3
import Derived.Deep.RegionHeld
namespace Go.Proofs.YtladgfngddgnlaaGreatDoor
open Go.RowKit
set_option linter.unusedSimpArgs false
set_option linter.unusedVariables false
variable {base : Nat}

def accH (f : Nat → Ks → Int → Oo → Int × Ks) (H : Hs) (who : Int) (o : Oo) : Int × Hs := ((f H.g H.l who o).1, { H with l := (f H.g H.l who o).2 })
theorem pay_deed (w : World) {X : Ad} {H : Hs} (h : Hm w base X H) (who : Int) (o : Oo) : Calls Tryz.prog 64 #[.pointer (some ⟨X.p, 0, none⟩), .int .i64 who, o.val] w (Deed base X w (accH payR H who o)) :=
  (pay_hs w h.ha who o).mono fun e w' ⟨h1, h2, h3⟩ => ⟨h1, X, (h.acc h2 h3 (payR_len _ _ _ _)).1, (h.acc h2 h3 (payR_len _ _ _ _)).2, rfl⟩
theorem store_deed (w : World) {X : Ad} {H : Hs} (h : Hm w base X H) (who : Int) (o : Oo) : Calls Tryz.prog 66 #[.pointer (some ⟨X.p, 0, none⟩), .int .i64 who, o.val] w (Deed base X w (accH storeR H who o)) :=
  (store_hs w h.ha who o).mono fun e w' ⟨h1, h2, h3⟩ => ⟨h1, X, (h.acc h2 h3 (storeR_len _ _ _ _)).1, (h.acc h2 h3 (storeR_len _ _ _ _)).2, rfl⟩
theorem take_deed (w : World) {X : Ad} {H : Hs} (h : Hm w base X H) (who : Int) (o : Oo) : Calls Tryz.prog 65 #[.pointer (some ⟨X.p, 0, none⟩), .int .i64 who, o.val] w (Deed base X w (accH takeR H who o)) :=
  (take_hs w h.ha who o).mono fun e w' ⟨h1, h2, h3⟩ => ⟨h1, X, (h.acc h2 h3 (takeR_len _ _ _ _)).1, (h.acc h2 h3 (takeR_len _ _ _ _)).2, rfl⟩
theorem fetch_deed (w : World) {X : Ad} {H : Hs} (h : Hm w base X H) (who : Int) (o : Oo) : Calls Tryz.prog 67 #[.pointer (some ⟨X.p, 0, none⟩), .int .i64 who, o.val] w (Deed base X w (accH fetchR H who o)) :=
  (fetch_hs w h.ha who o).mono fun e w' ⟨h1, h2, h3⟩ => ⟨h1, X, (h.acc h2 h3 (fetchR_len _ _ _ _)).1, (h.acc h2 h3 (fetchR_len _ _ _ _)).2, rfl⟩
def doneS (who stamp : Int) (r : Int × Hs) (V : Int) : Hs := { r.2 with l := (Led.markR r.2.l who stamp (layR r.1 V)).2 }
def eo0 : Oo := ⟨2, 0, 6400, 0, 0, 0⟩
def eo1 : Oo := ⟨4, 0, 5, 0, 0, 0⟩
def eo2 : Oo := ⟨8, 0, 5, 0, 1, 4611686018427387904⟩
def eo3 : Oo := ⟨8, 0, 3, 1, 1, 4609434218613702656⟩
def eo4 : Oo := ⟨1, 0, 0, 0, 0, 0⟩
def idE (H : Hs) (_ : Nat) : Hs := H
def es0 : Hs := Hs.new 2 1
def es1 : Hs := doneS 0 1 (accH payR es0 0 eo0) 0
def es2 : Hs := doneS 1 2 (accH storeR es1 1 eo1) 0
def es3 : Hs := doneS 0 3 (putR es2 0 eo2) 0
def es4 : Hs := doneS 1 4 (putR es3 1 eo3) 0
def es5 : Hs := doneS 0 5 (tickR idE es4) 1
theorem ee0 : refR es0.l 0 1 = 0 ∧ (accH payR es0 0 eo0).1 = 0 := ⟨by kernel_rfl, by kernel_rfl⟩
theorem ee1 : refR es1.l 1 2 = 0 ∧ (accH storeR es1 1 eo1).1 = 0 := ⟨by kernel_rfl, by kernel_rfl⟩
theorem ee2 : refR es2.l 0 3 = 0 ∧ (putR es2 0 eo2).1 = 0 := ⟨by kernel_rfl, by kernel_rfl⟩
theorem ee3 : refR es3.l 1 4 = 0 ∧ (putR es3 1 eo3).1 = 0 := ⟨by kernel_rfl, by kernel_rfl⟩
theorem ee4 : refR es4.l 0 5 = 0 ∧ (tickR idE es4).1 = 0 ∧ (tickR idE es4).2.now = 1 := ⟨by kernel_rfl, by kernel_rfl, by kernel_rfl⟩
theorem ee5 : es5.now = 1 ∧ es5.l.length = 2 ∧ (Led.kAt es5.l 0).n 2 = 3 ∧ (Led.kAt es5.l 0).n 0 = 6112 ∧ (Led.kAt es5.l 0).n 1 = 256 ∧ (Led.kAt es5.l 1).n 0 = 288 ∧ (Led.kAt es5.l 1).n 6 = 0 :=
  ⟨by kernel_rfl, by kernel_rfl, by kernel_rfl, by kernel_rfl, by kernel_rfl, by kernel_rfl, by kernel_rfl⟩
end Go.Proofs.YtladgfngddgnlaaGreatDoor

namespace Go.Proofs.YtladgfngddgnlaaGreatDoor
open Go.RowKit
set_option linter.unusedSimpArgs false
set_option linter.unusedVariables false
variable {p pl bl g base : Nat} {l : Ks} {mV sV : Value} {now : Int}

/-- A client's request. -/
structure Rq where
  who : Int
  stamp : Int
  op : Oo
  raw : Bool
  txt : ByteArray
def Rq.cells (a : Rq) : List Value := [.int .i64 a.who, .int .i64 a.stamp, .int .i64 a.op.k, .int .i64 a.op.g, .int .i64 a.op.a, .int .i64 a.op.d, .int .i64 a.op.i, .float .f64 a.op.pr, .bool a.raw, .string a.txt]
def Rq.val (a : Rq) : Value := .agg a.cells.toArray
def Rq.text (a : Rq) : ByteArray := if a.raw = true then a.txt else if opOk a.op = true then ⟨(opB a.op).toArray⟩ else ⟨#[]⟩
set_option maxRecDepth 100000 in
set_option maxHeartbeats 1000000 in
theorem text_hs (a : Rq) (w : World) (hp : a.op.pr < 18446744073709551616) : Calls Tryz.prog 9 #[a.val] w fun e w' => e = .returned (.string a.text) ∧ Below w.heap.size w w' := by
  obtain ⟨W0, hW0, O0, B0⟩ : ∃ W0, (w.alloc (.cells #[.int .i64 a.who, .int .i64 a.stamp, .int .i64 a.op.k, .int .i64 a.op.g, .int .i64 a.op.a, .int .i64 a.op.d, .int .i64 a.op.i, .float .f64 a.op.pr, .bool a.raw, .string a.txt] 27)) = W0 ∧ Blk W0 w.heap.size a.cells.toArray 27 ∧ Below w.heap.size w W0 := ⟨_, rfl, blk_new _ _ _ _ rfl, by go_grown⟩
  have d2 : W0.cell? ⟨w.heap.size, 2, none⟩ = some (.int .i64 a.op.k) := O0.cell rfl
  have d3 : W0.cell? ⟨w.heap.size, 3, none⟩ = some (.int .i64 a.op.g) := O0.cell rfl
  have d4 : W0.cell? ⟨w.heap.size, 4, none⟩ = some (.int .i64 a.op.a) := O0.cell rfl
  have d5 : W0.cell? ⟨w.heap.size, 5, none⟩ = some (.int .i64 a.op.d) := O0.cell rfl
  have d6 : W0.cell? ⟨w.heap.size, 6, none⟩ = some (.int .i64 a.op.i) := O0.cell rfl
  have d7 : W0.cell? ⟨w.heap.size, 7, none⟩ = some (.float .f64 a.op.pr) := O0.cell rfl
  have d8 : W0.cell? ⟨w.heap.size, 8, none⟩ = some (.bool a.raw) := O0.cell rfl
  have d9 : W0.cell? ⟨w.heap.size, 9, none⟩ = some (.string a.txt) := O0.cell rfl
  have HO : Hid _ := op_ref a.op W0 hp
  have HT : Hid (a.text = if a.raw = true then a.txt else if opOk a.op = true then ⟨(opB a.op).toArray⟩ else ⟨#[]⟩) := rfl
  generalize a.text = tx at *
  unfold Rq.val Rq.cells
  have HB : Hid _ := B0
  clear O0 B0
  unfold Oo.val at HO
  unfold opR at HO
  generalize opOk a.op = okk at *
  generalize (⟨(opB a.op).toArray⟩ : ByteArray) = ob at *
  generalize a.op.k = ak at *
  generalize a.op.g = ag at *
  generalize a.op.a = aa at *
  generalize a.op.d = ad at *
  generalize a.op.i = ai at *
  generalize a.op.pr = ap at *
  generalize a.who = aw at *
  generalize a.stamp = as_ at *
  generalize a.raw = ar at *
  generalize a.txt = at_ at *
  clear a
  cases ar
  · have hT := HT.out
    simp only [Bool.false_eq_true, if_false] at hT
    cases okk
    · simp only [Bool.false_eq_true, if_false] at hT HO
      subst hT
      go_enter Tryz.func9, Tryz.ntmps9
      go_wp2_with fail
      refine Calls.mono HO.out ?_
      rintro e w2 ⟨rfl, b2⟩
      go_wp2
      go_ret
      exact ⟨rfl, HB.out.trans (b2.mono HB.out.size)⟩
    · simp only [if_true] at hT HO
      subst hT
      go_enter Tryz.func9, Tryz.ntmps9
      go_wp2_with fail
      refine Calls.mono HO.out ?_
      rintro e w2 ⟨rfl, b2⟩
      go_wp2
      go_ret
      exact ⟨rfl, HB.out.trans (b2.mono HB.out.size)⟩
  · have hT := HT.out
    simp only [if_true] at hT
    subst hT
    go_enter Tryz.func9, Tryz.ntmps9
    go_wp2
    go_ret
    exact ⟨rfl, HB.out⟩
set_option maxRecDepth 100000 in
set_option maxHeartbeats 1000000 in
theorem account_hs (w : World) (h : Ha w p pl bl g l mV sV now) (who : Int) (h0 : 0 ≤ who) (h1 : who < l.length) :
    Calls Tryz.prog 27 #[.pointer (some ⟨p, 0, none⟩), .int .i64 who] w fun e w' => e = .returned (.tuple #[Led.accV (Led.kAt l who.toNat), .bool true]) ∧ Below w.heap.size w w' := by
  obtain ⟨W0, hW0, X0, B0⟩ : ∃ W0, (w.alloc (.cells #[.int .i64 0, .int .i64 0, .int .i64 0, .int .i64 0, .int .i64 0, .int .i64 0, .int .i64 0, .int .i64 0, .int .i64 0, .int .i64 0] 69)) = W0 ∧ Blk W0 w.heap.size (Led.accA Led.Kt.zero) 69 ∧ Below w.heap.size w W0 := ⟨_, rfl, blk_new _ _ _ _ rfl, by go_grown⟩
  have hh := h.below B0
  have hma := made_hs W0 hh
  have c1 : W0.cell? ⟨p, 1, none⟩ = some (.pointer (some ⟨pl, 0, none⟩)) := hh.blk.cell rfl
  have HC : Hid _ := Led.account_ok W0 hh.lg who h0 h1
  have HB : Hid _ := B0
  have HX0 : Hid _ := X0
  generalize Led.kAt l who.toNat = kk at *
  unfold Led.accV at HC ⊢
  have X0' := X0
  clear h hh B0 X0
  go_enter Tryz.func27, Tryz.ntmps27
  go_wp2_with fail
  refine hma.mono ?_
  rintro e w1 ⟨rfl, rfl⟩
  go_wp2_with fail
  refine Calls.mono HC.out ?_
  rintro e w2 ⟨rfl, b2⟩
  have X2 : Blk w2 w.heap.size (Led.accA Led.Kt.zero) 69 := X0'.below b2
  obtain ⟨W3, hW3, X3, B3⟩ : ∃ W3, w2.setRow w.heap.size (Led.accA kk) = W3 ∧ Blk W3 w.heap.size (Led.accA kk) 69 ∧ Below w.heap.size w W3 := ⟨_, rfl, Blk.setRow X2 _, below_setRow (HB.out.trans (b2.mono HB.out.size)) _ _ (Nat.le_refl _)⟩
  have q0 : W3.cell? ⟨w.heap.size, 0, none⟩ = some (.int .i64 (kk.n 0)) := X3.cell rfl
  have q1 : W3.cell? ⟨w.heap.size, 1, none⟩ = some (.int .i64 (kk.n 1)) := X3.cell rfl
  have q2 : W3.cell? ⟨w.heap.size, 2, none⟩ = some (.int .i64 (kk.n 2)) := X3.cell rfl
  have q3 : W3.cell? ⟨w.heap.size, 3, none⟩ = some (.int .i64 (kk.n 3)) := X3.cell rfl
  have q4 : W3.cell? ⟨w.heap.size, 4, none⟩ = some (.int .i64 (kk.n 4)) := X3.cell rfl
  have q5 : W3.cell? ⟨w.heap.size, 5, none⟩ = some (.int .i64 (kk.n 5)) := X3.cell rfl
  have q6 : W3.cell? ⟨w.heap.size, 6, none⟩ = some (.int .i64 (kk.n 6)) := X3.cell rfl
  have q7 : W3.cell? ⟨w.heap.size, 7, none⟩ = some (.int .i64 (kk.n 7)) := X3.cell rfl
  have q8 : W3.cell? ⟨w.heap.size, 8, none⟩ = some (.int .i64 (kk.n 8)) := X3.cell rfl
  have q9 : W3.cell? ⟨w.heap.size, 9, none⟩ = some (.int .i64 (kk.n 9)) := X3.cell rfl
  have HB3 : Hid _ := B3
  clear X3 B3 b2 X0'
  go_wp2_with ((with_reducible refine st_row (ty := 69) (cs' := Led.accA kk) X2 (Led.accA_info _) (Led.accA_same _ _) (Led.accA_one _) hW3 ?_ ?_ ?_); rfl; rfl)
  refine bodyPost_ret (v := .tuple #[.agg (Led.accA kk), .bool true]) (by simp [results, Tryz.results27, go_sem, q0, q1, q2, q3, q4, q5, q6, q7, q8, q9]; rfl) rfl ⟨rfl, HB3.out⟩
theorem Hm.foot_typ {w : World} {X : Ad} {H : Hs} (h : Hm w base X H) {k : Nat} {cs : Array Value} {t : TypeId} (hk : Blk w k cs t) (ht : t ∉ [52, 85, 56, 89, 92, 106, 108]) : ¬ X.foot k := by
  simp only [List.mem_cons, List.not_mem_nil, or_false, not_or] at ht
  intro hf
  rcases hf with rfl | rfl | rfl | ⟨b, hb, hf⟩ | ⟨a, ha, hf⟩
  · exact blk_unl hk h.ha.blk ht.1 rfl
  · exact blk_unl hk h.ha.lg.row ht.2.1 rfl
  · exact blk_unl hk h.sls.row ht.2.2.1 rfl
  · obtain ⟨i, hi, rfl⟩ := List.getElem_of_mem hb
    have hi' : X.bs[i]? = some X.bs[i] := by simp [hi]
    obtain ⟨B, hB⟩ := get_both hi' (h.mks.nm.trans h.mks.nb.symm)
    have hk2 := h.mks.bk i _ B hi' hB
    rcases hf with rfl | hf
    · exact blk_unl hk hk2.blk ht.2.2.2.1 rfl
    · exact own_unl hk2.row hk (fun e => ht.2.2.2.2.1 e.symm) hf
  · obtain ⟨i, hi, e⟩ := List.getElem_of_mem ha
    have hi' : X.sl[i]? = some (some a) := by rw [← e]; simp [hi]
    obtain ⟨x, hx⟩ := get_both hi' (h.sls.nn.trans h.sls.ns.symm)
    cases x with
    | none =>
      have := (h.sls.non i).2 hx
      rw [hi'] at this; cases this
    | some x =>
      have k2 := (h.sls.sal i a x hi' hx).2.1
      rcases hf with rfl | rfl
      · exact blk_unl hk k2.blk ht.2.2.2.2.2.1 rfl
      · exact blk_unl hk k2.row ht.2.2.2.2.2.2 rfl
end Go.Proofs.YtladgfngddgnlaaGreatDoor

namespace Go.Proofs.YtladgfngddgnlaaGreatDoor
open Go.RowKit
set_option linter.unusedSimpArgs false
set_option linter.unusedVariables false
variable {base : Nat}

theorem eb2 : 0 ≤ (Quo.ticksR eo2.pr 6).1 ∧ (Quo.ticksR eo2.pr 6).1 ≤ 1099511627776 := by
  have e : Quo.ticksR eo2.pr 6 = (128, 0) := by kernel_rfl
  rw [e]; decide
theorem eb3 : 0 ≤ (Quo.ticksR eo3.pr 6).1 ∧ (Quo.ticksR eo3.pr 6).1 ≤ 1099511627776 := by
  have e : Quo.ticksR eo3.pr 6 = (96, 0) := by kernel_rfl
  rw [e]; decide
theorem en2 : (0 : Int) < es2.l.length := by
  have e : es2.l.length = 2 := by kernel_rfl
  rw [e]; decide
theorem en3 : (1 : Int) < es3.l.length := by
  have e : es3.l.length = 2 := by kernel_rfl
  rw [e]; decide
theorem noS : ∀ (i : Nat) a, es4.ss[i]? ≠ some (some a) := fun i a h => by
  have e : es4.ss = [none] := by kernel_rfl
  rw [e] at h
  cases i with
  | zero => cases h
  | succ i => cases h
def ea0 : Rq := ⟨0, 0, eo0, false, ⟨#[]⟩⟩
theorem ea0_text : ea0.text = ⟨(opB eo0).toArray⟩ := by
  unfold Rq.text
  rw [if_neg (show ¬ ea0.raw = true by decide), if_pos (show opOk ea0.op = true by kernel_rfl)]
  rfl
set_option maxRecDepth 100000 in
theorem edo0 (wx : World) {X : Ad} (h : Hm wx base X es0) (hB : base ≤ wx.heap.size) :
    Calls Tryz.prog 8 #[.pointer (some ⟨X.p, 0, none⟩), .int .i64 0, .int .i64 1, .string ⟨(opB eo0).toArray⟩] wx fun e w' => e = .returned (.tuple #[.string ⟨#[0, 0]⟩, .int .i64 0]) ∧ ∃ X', Hm w' base X' es1 ∧ Hst wx w' X X' ∧ X'.p = X.p := by
  have HO : ofOpR ⟨(opB eo0).toArray⟩ = .ok eo0 := of_op eo0 (by kernel_rfl) (by decide)
  have hsz : (⟨(opB eo0).toArray⟩ : ByteArray).size ≤ maxLen := Nat.le_trans (Nat.le_of_ble_eq_true (show Nat.ble (⟨(opB eo0).toArray⟩ : ByteArray).size 256 = true by kernel_rfl)) (by unfold maxLen; omega)
  have hv : (if (accH payR es0 0 eo0).1 = 0 ∧ eo0.k = 1 then (accH payR es0 0 eo0).2.now else 0) = 0 := by kernel_rfl
  have hr := ee0.2
  have := do_hs wx h hB 0 1 ⟨(opB eo0).toArray⟩ ee0.1 (accH payR es0 0 eo0) 0 (by rw [hr]; decide) (by decide) (fun wy hy hBy => by
    have h1 := request_hs wy hy hBy 0 ⟨(opB eo0).toArray⟩ hsz (accH payR es0 0 eo0) eo0 HO 64 (by kernel_rfl) (fun _ _ => rfl) (fun wz hz hBz => pay_deed wz hz 0 eo0)
    rw [hv] at h1
    exact h1)
  refine this.mono fun e w' ⟨h1, h2⟩ => ⟨?_, h2⟩
  rw [h1, hr, show layR 0 0 = ⟨#[0, 0]⟩ by kernel_rfl]
def ea1 : Rq := ⟨1, 0, eo1, false, ⟨#[]⟩⟩
theorem ea1_text : ea1.text = ⟨(opB eo1).toArray⟩ := by
  unfold Rq.text
  rw [if_neg (show ¬ ea1.raw = true by decide), if_pos (show opOk ea1.op = true by kernel_rfl)]
  rfl
set_option maxRecDepth 100000 in
theorem edo1 (wx : World) {X : Ad} (h : Hm wx base X es1) (hB : base ≤ wx.heap.size) :
    Calls Tryz.prog 8 #[.pointer (some ⟨X.p, 0, none⟩), .int .i64 1, .int .i64 2, .string ⟨(opB eo1).toArray⟩] wx fun e w' => e = .returned (.tuple #[.string ⟨#[0, 0]⟩, .int .i64 0]) ∧ ∃ X', Hm w' base X' es2 ∧ Hst wx w' X X' ∧ X'.p = X.p := by
  have HO : ofOpR ⟨(opB eo1).toArray⟩ = .ok eo1 := of_op eo1 (by kernel_rfl) (by decide)
  have hsz : (⟨(opB eo1).toArray⟩ : ByteArray).size ≤ maxLen := Nat.le_trans (Nat.le_of_ble_eq_true (show Nat.ble (⟨(opB eo1).toArray⟩ : ByteArray).size 256 = true by kernel_rfl)) (by unfold maxLen; omega)
  have hv : (if (accH storeR es1 1 eo1).1 = 0 ∧ eo1.k = 1 then (accH storeR es1 1 eo1).2.now else 0) = 0 := by kernel_rfl
  have hr := ee1.2
  have := do_hs wx h hB 1 2 ⟨(opB eo1).toArray⟩ ee1.1 (accH storeR es1 1 eo1) 0 (by rw [hr]; decide) (by decide) (fun wy hy hBy => by
    have h1 := request_hs wy hy hBy 1 ⟨(opB eo1).toArray⟩ hsz (accH storeR es1 1 eo1) eo1 HO 66 (by kernel_rfl) (fun _ _ => rfl) (fun wz hz hBz => store_deed wz hz 1 eo1)
    rw [hv] at h1
    exact h1)
  refine this.mono fun e w' ⟨h1, h2⟩ => ⟨?_, h2⟩
  rw [h1, hr, show layR 0 0 = ⟨#[0, 0]⟩ by kernel_rfl]
def ea2 : Rq := ⟨0, 0, eo2, false, ⟨#[]⟩⟩
theorem ea2_text : ea2.text = ⟨(opB eo2).toArray⟩ := by
  unfold Rq.text
  rw [if_neg (show ¬ ea2.raw = true by decide), if_pos (show opOk ea2.op = true by kernel_rfl)]
  rfl
set_option maxRecDepth 100000 in
theorem edo2 (wx : World) {X : Ad} (h : Hm wx base X es2) (hB : base ≤ wx.heap.size) :
    Calls Tryz.prog 8 #[.pointer (some ⟨X.p, 0, none⟩), .int .i64 0, .int .i64 3, .string ⟨(opB eo2).toArray⟩] wx fun e w' => e = .returned (.tuple #[.string ⟨#[0, 0]⟩, .int .i64 0]) ∧ ∃ X', Hm w' base X' es3 ∧ Hst wx w' X X' ∧ X'.p = X.p := by
  have HO : ofOpR ⟨(opB eo2).toArray⟩ = .ok eo2 := of_op eo2 (by kernel_rfl) (by decide)
  have hsz : (⟨(opB eo2).toArray⟩ : ByteArray).size ≤ maxLen := Nat.le_trans (Nat.le_of_ble_eq_true (show Nat.ble (⟨(opB eo2).toArray⟩ : ByteArray).size 256 = true by kernel_rfl)) (by unfold maxLen; omega)
  have hv : (if (putR es2 0 eo2).1 = 0 ∧ eo2.k = 1 then (putR es2 0 eo2).2.now else 0) = 0 := by kernel_rfl
  have hr := ee2.2
  have := do_hs wx h hB 0 3 ⟨(opB eo2).toArray⟩ ee2.1 (putR es2 0 eo2) 0 (by rw [hr]; decide) (by decide) (fun wy hy hBy => by
    have h1 := request_hs wy hy hBy 0 ⟨(opB eo2).toArray⟩ hsz (putR es2 0 eo2) eo2 HO 70 (by kernel_rfl) (fun _ _ => rfl) (fun wz hz hBz => put_hs wz hz hBz 0 (by decide) (en2) eo2 (ofOpR_good HO).1 (fun _ => eb2))
    rw [hv] at h1
    exact h1)
  refine this.mono fun e w' ⟨h1, h2⟩ => ⟨?_, h2⟩
  rw [h1, hr, show layR 0 0 = ⟨#[0, 0]⟩ by kernel_rfl]
def ea3 : Rq := ⟨1, 0, eo3, false, ⟨#[]⟩⟩
theorem ea3_text : ea3.text = ⟨(opB eo3).toArray⟩ := by
  unfold Rq.text
  rw [if_neg (show ¬ ea3.raw = true by decide), if_pos (show opOk ea3.op = true by kernel_rfl)]
  rfl
set_option maxRecDepth 100000 in
theorem edo3 (wx : World) {X : Ad} (h : Hm wx base X es3) (hB : base ≤ wx.heap.size) :
    Calls Tryz.prog 8 #[.pointer (some ⟨X.p, 0, none⟩), .int .i64 1, .int .i64 4, .string ⟨(opB eo3).toArray⟩] wx fun e w' => e = .returned (.tuple #[.string ⟨#[0, 0]⟩, .int .i64 0]) ∧ ∃ X', Hm w' base X' es4 ∧ Hst wx w' X X' ∧ X'.p = X.p := by
  have HO : ofOpR ⟨(opB eo3).toArray⟩ = .ok eo3 := of_op eo3 (by kernel_rfl) (by decide)
  have hsz : (⟨(opB eo3).toArray⟩ : ByteArray).size ≤ maxLen := Nat.le_trans (Nat.le_of_ble_eq_true (show Nat.ble (⟨(opB eo3).toArray⟩ : ByteArray).size 256 = true by kernel_rfl)) (by unfold maxLen; omega)
  have hv : (if (putR es3 1 eo3).1 = 0 ∧ eo3.k = 1 then (putR es3 1 eo3).2.now else 0) = 0 := by kernel_rfl
  have hr := ee3.2
  have := do_hs wx h hB 1 4 ⟨(opB eo3).toArray⟩ ee3.1 (putR es3 1 eo3) 0 (by rw [hr]; decide) (by decide) (fun wy hy hBy => by
    have h1 := request_hs wy hy hBy 1 ⟨(opB eo3).toArray⟩ hsz (putR es3 1 eo3) eo3 HO 70 (by kernel_rfl) (fun _ _ => rfl) (fun wz hz hBz => put_hs wz hz hBz 1 (by decide) (en3) eo3 (ofOpR_good HO).1 (fun _ => eb3))
    rw [hv] at h1
    exact h1)
  refine this.mono fun e w' ⟨h1, h2⟩ => ⟨?_, h2⟩
  rw [h1, hr, show layR 0 0 = ⟨#[0, 0]⟩ by kernel_rfl]
def ea4 : Rq := ⟨0, 0, eo4, false, ⟨#[]⟩⟩
theorem ea4_text : ea4.text = ⟨(opB eo4).toArray⟩ := by
  unfold Rq.text
  rw [if_neg (show ¬ ea4.raw = true by decide), if_pos (show opOk ea4.op = true by kernel_rfl)]
  rfl
set_option maxRecDepth 100000 in
theorem edo4 (wx : World) {X : Ad} (h : Hm wx base X es4) (hB : base ≤ wx.heap.size) :
    Calls Tryz.prog 8 #[.pointer (some ⟨X.p, 0, none⟩), .int .i64 0, .int .i64 5, .string ⟨(opB eo4).toArray⟩] wx fun e w' => e = .returned (.tuple #[.string ⟨#[0, 1]⟩, .int .i64 0]) ∧ ∃ X', Hm w' base X' es5 ∧ Hst wx w' X X' ∧ X'.p = X.p := by
  have HO : ofOpR ⟨(opB eo4).toArray⟩ = .ok eo4 := of_op eo4 (by kernel_rfl) (by decide)
  have hsz : (⟨(opB eo4).toArray⟩ : ByteArray).size ≤ maxLen := Nat.le_trans (Nat.le_of_ble_eq_true (show Nat.ble (⟨(opB eo4).toArray⟩ : ByteArray).size 256 = true by kernel_rfl)) (by unfold maxLen; omega)
  have hv : (if (tickR idE es4).1 = 0 ∧ eo4.k = 1 then (tickR idE es4).2.now else 0) = 1 := by kernel_rfl
  have hr := ee4.2.1
  have := do_hs wx h hB 0 5 ⟨(opB eo4).toArray⟩ ee4.1 (tickR idE es4) 1 (by rw [hr]; decide) (by decide) (fun wy hy hBy => by
    have h1 := request_hs wy hy hBy 0 ⟨(opB eo4).toArray⟩ hsz (tickR idE es4) eo4 HO 63 (by kernel_rfl) (fun _ _ => rfl) (fun wz hz hBz => tick_hs idE (fun H => ∀ (i : Nat) a, H.ss[i]? ≠ some (some a)) (fun H n h => h) (fun H i h => h) (fun H i h => h) (fun H i => rfl) (fun wx X H i a _ _ _ h1 h2 => absurd h2 (h1 i a)) wz hz hBz noS 0 eo4)
    rw [hv] at h1
    exact h1)
  refine this.mono fun e w' ⟨h1, h2⟩ => ⟨?_, h2⟩
  rw [h1, hr, show layR 0 1 = ⟨#[0, 1]⟩ by kernel_rfl]
end Go.Proofs.YtladgfngddgnlaaGreatDoor
