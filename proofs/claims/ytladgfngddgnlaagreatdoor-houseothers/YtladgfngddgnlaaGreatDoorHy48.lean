/- Requests that come in as an argument. -/
import Derived.Test.YtladgfngddgnlaaGreatDoorHy40
import Derived.Test.YtladgfngddgnlaaGreatDoorHy01
import Derived.Test.YtladgfngddgnlaaGreatDoorHy35
import Derived.Test.YtladgfngddgnlaaGreatDoorHy07
import Derived.Test.YtladgfngddgnlaaGreatDoorHy09
import Derived.Test.YtladgfngddgnlaaGreatDoorHy47
import Derived.Deep.DeepCutAuto
import Derived.Deep.CutBlock
import Derived.Deep.RegionHeld3
import Derived.Deep.RegionHeld
import Derived.Test.YtladgfngddgnlaaGreatDoorHy29
import Derived.Test.YtladgfngddgnlaaGreatDoorHy31
import Derived.Test.YtladgfngddgnlaaGreatDoorHy30
namespace Go.Proofs.YtladgfngddgnlaaGreatDoor
open Go.ChangeShapes Go.WideShapes Go.ChangeAt Go.RowKit Go.Deep
set_option linter.unusedSimpArgs false
set_option linter.unusedVariables false

def Rq.fit (a : Rq) : Prop := a.op.pr < 18446744073709551616 ∧ a.txt.size ≤ 140737488351232
abbrev Rqs (w : World) (v : Value) (l : List Rq) : Prop := Elems 10 Rq.cells Rq.fit w v l
theorem cellsRi : Tryz.prog.cellsOf 3 = 1 := by kernel_rfl
theorem cellsRf : Tryz.prog.cellsOf 23 = 1 := by kernel_rfl
theorem cellsRb : Tryz.prog.cellsOf 4 = 1 := by kernel_rfl
theorem cellsRs : Tryz.prog.cellsOf 9 = 1 := by kernel_rfl
theorem cellsRo : Tryz.prog.cellsOf 25 = 6 := by kernel_rfl
theorem cellsRa : Tryz.prog.cellsOf 27 = 10 := by kernel_rfl
theorem bytesRa : Tryz.prog.bytesOf 27 = 88 := by kernel_rfl
theorem list5r {α : Type} {l : List α} (h : l.length = 5) : ∃ a b c d e, l = [a, b, c, d, e] := by
  match l, h with
  | [a, b, c, d, e], _ => exact ⟨a, b, c, d, e, rfl⟩
theorem list6r {α : Type} {l : List α} (h : l.length = 6) : ∃ a b c d e f, l = [a, b, c, d, e, f] := by
  match l, h with
  | [a, b, c, d, e, f], _ => exact ⟨a, b, c, d, e, f, rfl⟩
theorem list10r {α : Type} {l : List α} (h : l.length = 10) : ∃ a b c d e f g i j k, l = [a, b, c, d, e, f, g, i, j, k] := by
  match l, h with
  | [a, b, c, d, e, f, g, i, j, k], _ => exact ⟨a, b, c, d, e, f, g, i, j, k, rfl⟩
section
variable {H : Type} {enc : TypeId × Value → H} {w : World} {base : Nat} {spare : Nat → Bool} {held : Bool}
theorem trod_float {P : Program} {fuel : Nat} {t : TypeId} {k : FloatKind} {v : Value} {x : DataW H × List MemPlace} (ht : P.underlying t = some (.float k)) (h : DataW.trod enc P w base spare held fuel t [v] = some x) : ∃ b, v = .float k b ∧ (Lit.float k b).wf = true := by
  cases fuel with
  | zero => simp [DataW.trod] at h
  | succ n =>
    cases v with
    | float k' b =>
      simp only [DataW.trod, ht] at h
      split at h
      · rename_i hk
        obtain ⟨rfl, hw⟩ := hk
        exact ⟨b, rfl, hw⟩
      · cases h
    | _ => simp [DataW.trod, ht] at h
set_option maxRecDepth 100000 in
theorem open_opR {fuel : Nat} {cs : List Value} {x : DataW H × List MemPlace} (hx : DataW.trod enc Tryz.prog w base spare held fuel 25 cs = some x) :
    ∃ o : Oo, cs = [.int .i64 o.k, .int .i64 o.g, .int .i64 o.a, .int .i64 o.d, .int .i64 o.i, .float .f64 o.pr] ∧ o.pr < 18446744073709551616 := by
  obtain ⟨xs, n, _, hxe, hl, hlen, hfl⟩ := DataW.trod_struct Tryz.underlying25 hx
  rw [cellsRo] at hl
  obtain ⟨k0, k1, k2, k3, k4, k5, rfl⟩ := list6r hl
  obtain ⟨y0, y1, y2, y3, y4, y5, hxs⟩ := list6r (l := xs) (by simpa using hlen)
  subst hxs
  have g0 := hfl 0 _ rfl
  have g1 := hfl 1 _ rfl
  have g2 := hfl 2 _ rfl
  have g3 := hfl 3 _ rfl
  have g4 := hfl 4 _ rfl
  have g5 := hfl 5 _ rfl
  simp only [cellsRi, cellsRf, List.drop_zero, List.drop_succ_cons, List.take_succ_cons, List.take_zero, List.getElem?_cons_zero, List.getElem?_cons_succ] at g0 g1 g2 g3 g4 g5
  obtain ⟨i0, e0, _, _⟩ := DataW.trod_int Tryz.underlying3 g0
  obtain ⟨i1, e1, _, _⟩ := DataW.trod_int Tryz.underlying3 g1
  obtain ⟨i2, e2, _, _⟩ := DataW.trod_int Tryz.underlying3 g2
  obtain ⟨i3, e3, _, _⟩ := DataW.trod_int Tryz.underlying3 g3
  obtain ⟨i4, e4, _, _⟩ := DataW.trod_int Tryz.underlying3 g4
  obtain ⟨bb, e5, hw⟩ := trod_float Tryz.underlying23 g5
  have q0 : k0 = .int .i64 i0 := by simpa [cellsRi] using e0
  have q1 : k1 = .int .i64 i1 := by simpa [cellsRi] using e1
  have q2 : k2 = .int .i64 i2 := by simpa [cellsRi] using e2
  have q3 : k3 = .int .i64 i3 := by simpa [cellsRi] using e3
  have q4 : k4 = .int .i64 i4 := by simpa [cellsRi] using e4
  have hb : bb < 2 ^ 64 := by simpa [Lit.wf] using hw
  exact ⟨⟨i0, i1, i2, i3, i4, bb⟩, by rw [q0, q1, q2, q3, q4, e5], by omega⟩
set_option maxRecDepth 100000 in
theorem open_rq {fuel : Nat} {cs : List Value} {x : DataW H × List MemPlace} (hx : DataW.trod enc Tryz.prog w base spare held fuel 27 cs = some x) (hw : (x.1.weights Tryz.prog 27).all (· ≤ reachBytes) = true) : ∃ a : Rq, cs = a.cells ∧ a.fit := by
  obtain ⟨xs, n, _, hxe, hl, hlen, hfl⟩ := DataW.trod_struct Tryz.underlying27 hx
  rw [cellsRa] at hl
  obtain ⟨k0, k1, k2, k3, k4, k5, k6, k7, k8, k9, rfl⟩ := list10r hl
  obtain ⟨y0, y1, y2, y3, y4, hxs⟩ := list5r (l := xs) (by simpa using hlen)
  subst hxs
  have g0 : DataW.trod enc Tryz.prog w base spare held n 3 [k0] = some y0 := by
    have q : DataW.trod enc Tryz.prog w base spare held n 3 (List.take (Tryz.prog.cellsOf 3) (List.drop 0 [k0, k1, k2, k3, k4, k5, k6, k7, k8, k9])) = some y0 := hfl 0 _ rfl
    rw [cellsRi] at q; exact q
  have g1 : DataW.trod enc Tryz.prog w base spare held n 3 [k1] = some y1 := by
    have q : DataW.trod enc Tryz.prog w base spare held n 3 (List.take (Tryz.prog.cellsOf 3) (List.drop 1 [k0, k1, k2, k3, k4, k5, k6, k7, k8, k9])) = some y1 := hfl 1 _ rfl
    rw [cellsRi] at q; exact q
  have g2 : DataW.trod enc Tryz.prog w base spare held n 25 [k2, k3, k4, k5, k6, k7] = some y2 := by
    have q : DataW.trod enc Tryz.prog w base spare held n 25 (List.take (Tryz.prog.cellsOf 25) (List.drop 2 [k0, k1, k2, k3, k4, k5, k6, k7, k8, k9])) = some y2 := hfl 2 _ rfl
    rw [cellsRo] at q; exact q
  have g3 : DataW.trod enc Tryz.prog w base spare held n 4 [k8] = some y3 := by
    have q : DataW.trod enc Tryz.prog w base spare held n 4 (List.take (Tryz.prog.cellsOf 4) (List.drop 8 [k0, k1, k2, k3, k4, k5, k6, k7, k8, k9])) = some y3 := hfl 3 _ rfl
    rw [cellsRb] at q; exact q
  have g4 : DataW.trod enc Tryz.prog w base spare held n 9 [k9] = some y4 := by
    have q : DataW.trod enc Tryz.prog w base spare held n 9 (List.take (Tryz.prog.cellsOf 9) (List.drop 9 [k0, k1, k2, k3, k4, k5, k6, k7, k8, k9])) = some y4 := hfl 4 _ rfl
    rw [cellsRs] at q; exact q
  obtain ⟨i0, e0, _, _⟩ := DataW.trod_int Tryz.underlying3 g0
  obtain ⟨i1, e1, _, _⟩ := DataW.trod_int Tryz.underlying3 g1
  obtain ⟨o, e2, ho⟩ := open_opR g2
  obtain ⟨b3, e3, _⟩ := DataW.trod_bool Tryz.underlying4 g3
  obtain ⟨s4, e4, d4, _⟩ := DataW.trod_string Tryz.underlying9 g4
  have q0 : k0 = .int .i64 i0 := by simpa using e0
  have q1 : k1 = .int .i64 i1 := by simpa using e1
  have q3 : k8 = .bool b3 := by simpa using e3
  have q4 : k9 = .string s4 := by simpa using e4
  simp only [List.cons.injEq, and_true] at e2
  obtain ⟨r2, r3, r4, r5, r6, r7⟩ := e2
  have hd : x.1 = .agg [y0.1, y1.1, y2.1, y3.1, y4.1] := by simpa using congrArg Prod.fst hxe
  rw [hd] at hw
  have w5 := List.all_eq_true.1 hw s4.data.toList.length (by
    simp only [DataW.weights, Tryz.underlying27]
    refine DataW.weights_mem_each (j := 4) (t := 9) (d := y4.1) rfl rfl _ ?_
    rw [d4]; simp [DataW.weights])
  have z5 := of_decide_eq_true w5
  rw [Array.length_toList] at z5
  exact ⟨⟨i0, i1, o, b3, s4⟩, by rw [q0, q1, r2, r3, r4, r5, r6, r7, q3, q4]; rfl, ho, Nat.le_trans z5 (by unfold reachBytes; decide)⟩
theorem open_rqs {v : Value} {d : DataW H} {p : List MemPlace} (hv : v.cells = #[v]) (h : DataW.Trod enc Tryz.prog w base spare held 22 v d p) (hsz : (d.weights Tryz.prog 22).all (· ≤ reachBytes) = true) (hlt : ∀ x ∈ p, x.block < w.heap.size) :
    ∃ l : List Rq, Rqs w v l ∧ l.length * 88 ≤ 140737488351232 := by
  haveI : Nonempty Rq := ⟨⟨0, 0, ⟨0, 0, 0, 0, 0, 0⟩, false, .empty⟩⟩
  refine open_elems Rq.cells Rq.fit Tryz.underlying22 cellsRa (fun _ => rfl) (by decide) bytesRa ?_ hv h hsz hlt
  intro fuel cs x hx hw
  exact open_rq hx hw
set_option maxRecDepth 100000 in
theorem open_rq1 {r : Reach} {b0 : Nat} {v : Value} {d : DataW H} {p : List MemPlace} (hv : Value.okWide Tryz.prog w r b0 27 v) (h : DataW.Trod enc Tryz.prog w base spare held 27 v d p) (hsz : (DataW.weights Tryz.prog 27 d).all (· ≤ reachBytes) = true) :
    ∃ a : Rq, v = .agg a.cells.toArray ∧ a.fit := by
  obtain ⟨cs, rfl, _⟩ := okWide_struct Tryz.underlying27 hv
  obtain ⟨fuel, hf⟩ := h
  obtain ⟨a, hcs, hfit⟩ := open_rq hf hsz
  refine ⟨a, ?_, hfit⟩
  rw [← hcs]
  simp [Value.cells]
end
end Go.Proofs.YtladgfngddgnlaaGreatDoor

namespace Go.Proofs.YtladgfngddgnlaaGreatDoor
open Go.RowKit
set_option linter.unusedSimpArgs false
set_option linter.unusedVariables false
variable {p pl bl g base : Nat} {l : Ks} {mV sV : Value} {now : Int}

set_option maxRecDepth 100000 in
set_option maxHeartbeats 1000000 in
theorem last_in (w : World) (h : Ha w p pl bl g l mV sV now) (i : Nat) (hi : i < l.length) :
    Calls Tryz.prog 11 #[.pointer (some ⟨p, 0, none⟩), .int .i64 i] w fun e w' => e = .returned (.tuple #[.int .i64 ((Led.kAt l i).n 10), .string (Led.kAt l i).reply]) ∧ Below w.heap.size w w' := by
  have hma := made_hs w h
  have c1 : w.cell? ⟨p, 1, none⟩ = some (.pointer (some ⟨pl, 0, none⟩)) := h.blk.cell rfl
  have HC : Hid _ := Led.last_ok w h.lg i (by omega) (by omega)
  rw [Int.toNat_natCast] at HC
  generalize (Led.kAt l i).n 10 = n10 at *
  generalize (Led.kAt l i).reply = rp at *
  clear h
  go_enter Tryz.func11, Tryz.ntmps11
  go_wp2_with fail
  refine hma.mono ?_
  rintro e w1 ⟨rfl, rfl⟩
  go_wp2_with fail
  refine Calls.mono HC.out ?_
  rintro e w2 ⟨rfl, b2⟩
  go_wp2
  refine bodyPost_ret (by simp [results, Tryz.results11, go_sem]; rfl) rfl ?_
  exact ⟨rfl, b2⟩
end Go.Proofs.YtladgfngddgnlaaGreatDoor

namespace Go.Proofs.YtladgfngddgnlaaGreatDoor
open Go.RowKit
set_option linter.unusedSimpArgs false
set_option linter.unusedVariables false
variable {base : Nat}

def stepR (H : Hs) (a : Rq) : Hs := (doR H a.who a.stamp a.text).2.2
def runsR (H : Hs) (l : List Rq) : Hs := l.foldl stepR H
theorem runsR_take (H : Hs) (l : List Rq) (k : Nat) (h : k < l.length) : runsR H (l.take (k + 1)) = (doR (runsR H (l.take k)) l[k].who l[k].stamp l[k].text).2.2 := by
  unfold runsR
  rw [List.take_succ_eq_append_getElem h, List.foldl_append]; rfl
theorem new_pst (c g : Nat) : Pst (Hs.new c g) := by
  intro i x hx
  simp only [Hs.new, List.getElem?_replicate] at hx
  split at hx
  · cases hx
  · cases hx
theorem runsR_pst {H : Hs} (h : Pst H) : ∀ l : List Rq, Pst (runsR H l) := by
  intro l
  unfold runsR
  induction l generalizing H with
  | nil => exact h
  | cons a l ih => exact ih (doR_pst h _ _ _)
theorem text_size (a : Rq) (h : a.txt.size ≤ 140737488351232) : a.text.size ≤ maxLen := by
  have hm : 140737488351232 ≤ maxLen := by unfold maxLen; omega
  unfold Rq.text
  split
  · omega
  · split
    · have h1 := ints_take_len a.op 5
      have e8 : (le8 a.op.pr).length = 8 := leN_len _ _
      have : (opB a.op).length ≤ 58 := by
        unfold opB
        rw [List.length_append, e8]
        have e : a.op.ints.take 5 = a.op.ints := List.take_of_length_le (by rw [ints_len]; omega)
        rw [e] at h1
        omega
      show (opB a.op).toArray.size ≤ maxLen
      rw [List.size_toArray]
      omega
    · exact Nat.zero_le _
def h32 : Hs := Hs.new 3 2
theorem keepCellH {w w' : World} {k o : Nat} {v : Value} (hb : Below k w w') {c : Nat} (h : w.cell? ⟨c, o, none⟩ = some v) (hc : c < k) : w'.cell? ⟨c, o, none⟩ = some v := (hb.cell (p := ⟨c, o, none⟩) hc).trans h
set_option maxRecDepth 100000 in
set_option maxHeartbeats 4000000 in
theorem begun_hs (v : Value) (ls : List Rq) (w : World) (hl : Rqs w v ls) (hz : ls.length * 88 ≤ 140737488351232) :
    Calls Tryz.prog 6 #[v] w fun e w' => ∃ X, e = .returned (.pointer (some ⟨X.p, 0, none⟩)) ∧ Hm w' w.heap.size X (runsR h32 (ls.take 60)) ∧ Below w.heap.size w w' := by
  have HN : Hid _ := new_hs 3 2 w (by omega) (by omega) (by omega) (by omega)
  obtain ⟨a, cap, rfl, hc⟩ := hl.any
  have HC : Hid _ := hc
  obtain ⟨n, hn⟩ : ∃ n, ls.length = n := ⟨_, rfl⟩
  rw [hn] at hz ⊢
  have HLn : Hid _ := hn
  clear hc hl hn
  go_enter Tryz.func6, Tryz.ntmps6
  go_wp2_with fail
  refine Calls.mono HN.out ?_
  rintro e w1 ⟨X, rfl, hm, b1⟩
  have HI : Hid (∃ X', Hm w1 w.heap.size X' (runsR h32 (ls.take 0)) ∧ X'.p = X.p ∧ Below w.heap.size w w1) := ⟨X, hm, rfl, b1⟩
  clear hm b1 HN
  go_wp2_with fail
  go_loopw [5] (fun i wr => ∃ k : Nat, k ≤ n ∧ k ≤ 60 ∧ i = .int .i64 k ∧ Hid (∃ X', Hm wr w.heap.size X' (runsR h32 (ls.take k)) ∧ X'.p = X.p ∧ Below w.heap.size w wr)) (fun i _ => n - (intOf i).toNat)
  case atStart => exact ⟨0, Nat.zero_le _, by omega, rfl, HI⟩
  case round =>
    clear HI
    obtain ⟨k, hk, hk1, rfl, HR⟩ := hrel
    by_cases hgo : k < n ∧ k < 60
    · obtain ⟨hlt, hlt1⟩ := hgo
      have hd1 : decide ((k : Int) < n) = true := by simp only [decide_eq_true_eq]; omega
      have hd2 : decide ((k : Int) < 60) = true := by simp only [decide_eq_true_eq]; omega
      have hlt' : k < ls.length := by rw [HLn.out]; exact hlt
      obtain ⟨q, off, hga, _, hg, hcel, hfit, hsz⟩ := HC.out k hlt'
      subst hga
      obtain ⟨X1, m1, p1, br⟩ := HR.out
      clear HR
      have d0 := keepCellH br (hcel 0 _ rfl) hg
      have d1 := keepCellH br (hcel 1 _ rfl) hg
      have d2 := keepCellH br (hcel 2 _ rfl) hg
      have d3 := keepCellH br (hcel 3 _ rfl) hg
      have d4 := keepCellH br (hcel 4 _ rfl) hg
      have d5 := keepCellH br (hcel 5 _ rfl) hg
      have d6 := keepCellH br (hcel 6 _ rfl) hg
      have d7 := keepCellH br (hcel 7 _ rfl) hg
      have d8 := keepCellH br (hcel 8 _ rfl) hg
      have d9 := keepCellH br (hcel 9 _ rfl) hg
      rw [Nat.add_zero] at d0
      have hrt := runsR_take h32 ls k hlt'
      have HTx : Hid _ := fun wx => text_hs ls[k] wx hfit
      have HDo : Hid _ := fun wx hm hB => do_calls (base := w.heap.size) wx (X := X1) (H := runsR h32 (ls.take k)) hm hB (runsR_pst (new_pst 3 2) _) ls[k].who ls[k].stamp ls[k].text (text_size _ hsz)
      rw [p1] at HDo
      have hnf : ¬ X1.foot q := fun e => by have := m1.foot_base q e; omega
      have hzr := br.size
      have HM : Hid (Hm wr w.heap.size X1 (runsR h32 (ls.take k))) := m1
      have HX : Hid (X1.p = X.p ∧ Below w.heap.size w wr) := ⟨p1, br⟩
      have HHC : Hid _ := HC.out
      obtain ⟨D, hD⟩ : ∃ D, doR (runsR h32 (ls.take k)) ls[k].who ls[k].stamp ls[k].text = D := ⟨_, rfl⟩
      rw [hD] at hrt HDo
      have HRT : Hid _ := hrt
      obtain ⟨rq, hrq⟩ : ∃ rq, ls[k] = rq := ⟨_, rfl⟩
      rw [hrq] at HTx HDo d0 d1 d2 d3 d4 d5 d6 d7 d8 d9
      generalize rq.text = tx at *
      unfold Rq.val Rq.cells at HTx
      obtain ⟨o, ho⟩ : ∃ o, off + k * 10 = o := ⟨_, rfl⟩
      rw [ho] at d0 d1 d2 d3 d4 d5 d6 d7 d8 d9
      have HIx : Hid _ := ho
      clear ho
      generalize rq.who = aw at *
      generalize rq.stamp = as_ at *
      generalize rq.op.k = ok at *
      generalize rq.op.g = og at *
      generalize rq.op.a = oa at *
      generalize rq.op.d = od at *
      generalize rq.op.i = oi at *
      generalize rq.op.pr = op at *
      generalize rq.raw = ar at *
      generalize rq.txt = at_ at *
      clear hrq hrt hD m1 p1 br hcel hfit hsz hlt'
      go_wp2_with fail
      go_upto_region 7 with fail
      refine wp_region_held_drew (S := (fun wx => Chg X1.foot wr wx)) (by kernel_rfl) (Chg.of_below (Below.refl wr.heap.size wr) : Chg X1.foot wr wr).drew (fun hS => ?_)
      refine tkG (i := 0) (v := .pointer (some ⟨X.p, 0, none⟩)) rfl hS ?_
      refine tkG (i := 1) (v := .slice (some ⟨q, off, none⟩) n cap) rfl hS ?_
      refine tkG (i := 2) (v := .int .i64 k) rfl hS ?_
      refine tkH (i := 3) (v := .pointer (some ⟨q, o, none⟩)) rfl (fun w3 hS => by go_simp; exact HIx.out) hS ?_
      refine tkG (i := 4) (v := .pointer (some ⟨q, o, none⟩)) rfl hS ?_
      refine tkH (i := 5) (v := .int .i64 aw) rfl (fun w3 hS => by have f0 : w3.cell? ⟨q, o, none⟩ = some (.int .i64 aw) := Chg.cell hS d0 hnf; have f1 : w3.cell? ⟨q, o + 1, none⟩ = some (.int .i64 as_) := Chg.cell hS d1 hnf; have f2 : w3.cell? ⟨q, o + 2, none⟩ = some (.int .i64 ok) := Chg.cell hS d2 hnf; have f3 : w3.cell? ⟨q, o + 3, none⟩ = some (.int .i64 og) := Chg.cell hS d3 hnf; have f4 : w3.cell? ⟨q, o + 4, none⟩ = some (.int .i64 oa) := Chg.cell hS d4 hnf; have f5 : w3.cell? ⟨q, o + 5, none⟩ = some (.int .i64 od) := Chg.cell hS d5 hnf; have f6 : w3.cell? ⟨q, o + 6, none⟩ = some (.int .i64 oi) := Chg.cell hS d6 hnf; have f7 : w3.cell? ⟨q, o + 7, none⟩ = some (.float .f64 op) := Chg.cell hS d7 hnf; have f8 : w3.cell? ⟨q, o + 8, none⟩ = some (.bool ar) := Chg.cell hS d8 hnf; have f9 : w3.cell? ⟨q, o + 9, none⟩ = some (.string at_) := Chg.cell hS d9 hnf; go_simp) hS ?_
      refine tkG (i := 6) (v := .slice (some ⟨q, off, none⟩) n cap) rfl hS ?_
      refine tkG (i := 7) (v := .int .i64 k) rfl hS ?_
      refine tkH (i := 8) (v := .pointer (some ⟨q, o, none⟩)) rfl (fun w3 hS => by go_simp; exact HIx.out) hS ?_
      refine tkG (i := 9) (v := .pointer (some ⟨q, o + 1, none⟩)) rfl hS ?_
      refine tkH (i := 10) (v := .int .i64 as_) rfl (fun w3 hS => by have f0 : w3.cell? ⟨q, o, none⟩ = some (.int .i64 aw) := Chg.cell hS d0 hnf; have f1 : w3.cell? ⟨q, o + 1, none⟩ = some (.int .i64 as_) := Chg.cell hS d1 hnf; have f2 : w3.cell? ⟨q, o + 2, none⟩ = some (.int .i64 ok) := Chg.cell hS d2 hnf; have f3 : w3.cell? ⟨q, o + 3, none⟩ = some (.int .i64 og) := Chg.cell hS d3 hnf; have f4 : w3.cell? ⟨q, o + 4, none⟩ = some (.int .i64 oa) := Chg.cell hS d4 hnf; have f5 : w3.cell? ⟨q, o + 5, none⟩ = some (.int .i64 od) := Chg.cell hS d5 hnf; have f6 : w3.cell? ⟨q, o + 6, none⟩ = some (.int .i64 oi) := Chg.cell hS d6 hnf; have f7 : w3.cell? ⟨q, o + 7, none⟩ = some (.float .f64 op) := Chg.cell hS d7 hnf; have f8 : w3.cell? ⟨q, o + 8, none⟩ = some (.bool ar) := Chg.cell hS d8 hnf; have f9 : w3.cell? ⟨q, o + 9, none⟩ = some (.string at_) := Chg.cell hS d9 hnf; go_simp) hS ?_
      refine tkG (i := 11) (v := .slice (some ⟨q, off, none⟩) n cap) rfl hS ?_
      refine tkG (i := 12) (v := .int .i64 k) rfl hS ?_
      refine tkH (i := 13) (v := .pointer (some ⟨q, o, none⟩)) rfl (fun w3 hS => by go_simp; exact HIx.out) hS ?_
      refine tkH (i := 14) (v := .agg #[.int .i64 aw, .int .i64 as_, .int .i64 ok, .int .i64 og, .int .i64 oa, .int .i64 od, .int .i64 oi, .float .f64 op, .bool ar, .string at_]) rfl (fun w3 hS => by have f0 : w3.cell? ⟨q, o, none⟩ = some (.int .i64 aw) := Chg.cell hS d0 hnf; have f1 : w3.cell? ⟨q, o + 1, none⟩ = some (.int .i64 as_) := Chg.cell hS d1 hnf; have f2 : w3.cell? ⟨q, o + 2, none⟩ = some (.int .i64 ok) := Chg.cell hS d2 hnf; have f3 : w3.cell? ⟨q, o + 3, none⟩ = some (.int .i64 og) := Chg.cell hS d3 hnf; have f4 : w3.cell? ⟨q, o + 4, none⟩ = some (.int .i64 oa) := Chg.cell hS d4 hnf; have f5 : w3.cell? ⟨q, o + 5, none⟩ = some (.int .i64 od) := Chg.cell hS d5 hnf; have f6 : w3.cell? ⟨q, o + 6, none⟩ = some (.int .i64 oi) := Chg.cell hS d6 hnf; have f7 : w3.cell? ⟨q, o + 7, none⟩ = some (.float .f64 op) := Chg.cell hS d7 hnf; have f8 : w3.cell? ⟨q, o + 8, none⟩ = some (.bool ar) := Chg.cell hS d8 hnf; have f9 : w3.cell? ⟨q, o + 9, none⟩ = some (.string at_) := Chg.cell hS d9 hnf; go_simp) hS ?_
      refine wpAnyH_ready (rs := [15]) (by kernel_rfl) (by simp) ?_
      refine AllReadyH.cons rfl (fun K hK => ?_) AllReadyH.nil
      go_simp
      refine (HTx.out _).mono ?_
      rintro e w2 ⟨rfl, b2⟩
      have b2' : Below wr.heap.size wr w2 := ⟨b2.os, b2.tape, b2.output, b2.size, b2.block⟩
      have C2 : Chg X1.foot wr w2 := Chg.of_below b2'
      refine hK.out _ _ C2 (fun hS => ?_)
      clear hK
      refine wpAnyH_ready (rs := [16]) (by kernel_rfl) (by simp) ?_
      refine AllReadyH.cons rfl (fun K hK => ?_) AllReadyH.nil
      go_simp
      refine (HDo.out w2 (HM.out.below b2') (Nat.le_trans hzr b2'.size)).mono ?_
      rintro e w3 ⟨rfl, X3, m3, t3, p3⟩
      have C3 : Chg X1.foot wr w3 := C2.trans (fun q hq => Or.inl hq) t3.chg
      refine hK.out _ _ C3 (fun hS => ?_)
      clear hK
      refine wpAnyH_done (by kernel_rfl) ?_ _
      have HF : Hid (∃ X', Hm w3 w.heap.size X' (runsR h32 (ls.take (k + 1))) ∧ X'.p = X.p ∧ Below w.heap.size w w3) :=
        ⟨X3, by rw [HRT.out]; exact m3, p3, below_chg HX.out.2 hzr C3 (fun q hq => HM.out.foot_base q hq)⟩
      clear m3 t3 p3 C3 C2 b2 b2' HDo HTx HX HM hnf d0 d1 d2 d3 d4 d5 d6 d7 d8 d9 HRT
      go_wp2
      exact ⟨⟨k + 1, by omega, by omega, by norm_cast, HF⟩, by simp [intOf]; omega⟩
    · have htk : ls.take k = ls.take 60 := by
        by_cases h1 : k < n
        · have : k = 60 := by omega
          rw [this]
        · have hl := HLn.out
          rw [List.take_of_length_le (by omega), List.take_of_length_le (by omega)]
      have HE : Hid (∃ X', Hm wr w.heap.size X' (runsR h32 (ls.take 60)) ∧ X'.p = X.p ∧ Below w.heap.size w wr) := by rw [← htk]; exact HR
      clear HR htk
      by_cases h1 : k < n
      · have hd1 : decide ((k : Int) < n) = true := by simp only [decide_eq_true_eq]; omega
        have hd2 : decide ((k : Int) < 60) = false := by simp only [decide_eq_false_iff_not]; omega
        go_wp2
        go_ret
        obtain ⟨X', m, p, b⟩ := HE.out
        exact ⟨X', by rw [p]; rfl, m, b⟩
      · have hd1 : decide ((k : Int) < n) = false := by simp only [decide_eq_false_iff_not]; omega
        go_wp2
        go_ret
        obtain ⟨X', m, p, b⟩ := HE.out
        exact ⟨X', by rw [p]; rfl, m, b⟩
end Go.Proofs.YtladgfngddgnlaaGreatDoor

namespace Go.Proofs.YtladgfngddgnlaaGreatDoor
open Go.RowKit
set_option linter.unusedSimpArgs false
set_option linter.unusedVariables false

theorem doR_len {H : Hs} (hg : H.g ≤ 4) (who stamp : Int) (op : ByteArray) : (doR H who stamp op).2.2.l.length = H.l.length ∧ (doR H who stamp op).2.2.g = H.g ∧ (doR H who stamp op).2.2.ms.length = H.ms.length := by
  unfold doR
  split
  · next hr =>
    unfold reqR
    split
    · next o _ =>
      have := (deedR_dps hg who o).done (V := valR H who op) hr
      exact ⟨this.len, this.g, this.nms⟩
    · exact ⟨markR_len, rfl, rfl⟩
  · exact ⟨rfl, rfl, rfl⟩
theorem runsR_len {H : Hs} (hg : H.g ≤ 4) : ∀ l : List Rq, (runsR H l).l.length = H.l.length ∧ (runsR H l).g = H.g ∧ (runsR H l).ms.length = H.ms.length := by
  intro l
  unfold runsR
  induction l generalizing H with
  | nil => exact ⟨rfl, rfl, rfl⟩
  | cons a l ih =>
    have h1 := doR_len hg a.who a.stamp a.text
    have h2 := ih (H := stepR H a) (by unfold stepR; rw [h1.2.1]; exact hg)
    exact ⟨h2.1.trans h1.1, h2.2.1.trans h1.2.1, h2.2.2.trans h1.2.2⟩
theorem runs3 (l : List Rq) : (runsR h32 l).l.length = 3 ∧ (runsR h32 l).g = 2 ∧ (runsR h32 l).ms.length = 2 := by
  have h := runsR_len (H := h32) (by decide) l
  exact ⟨h.1.trans (by kernel_rfl), h.2.1.trans (by kernel_rfl), h.2.2.trans (by kernel_rfl)⟩
theorem ofNat_zero {n : Nat} (h : n < 256) : UInt8.ofNat n = 0 ↔ n = 0 := by
  constructor
  · intro e
    have := congrArg UInt8.toNat e
    simpa [Nat.mod_eq_of_lt h] using this
  · intro e; subst e; rfl
theorem enc_head {n : Nat} : ∃ (b : UInt8) (r : List UInt8), enc n = b :: r ∧ (b = 0 ↔ n = 0) := by
  unfold enc encF
  split
  · next h => exact ⟨_, _, rfl, ofNat_zero (by omega)⟩
  · next h => exact ⟨_, _, rfl, (ofNat_zero (by omega)).trans ⟨fun e => by omega, fun e => by omega⟩⟩
theorem layR_head {c V : Int} (hc : 0 ≤ c) : ∃ (b : UInt8) (r : List UInt8), layR c V = ⟨(b :: r).toArray⟩ ∧ (b = 0 ↔ c = 0) := by
  obtain ⟨b, r, h1, h2⟩ := enc_head (n := c.toNat)
  refine ⟨b, r ++ enc V.toNat, ?_, h2.trans ⟨fun e => by omega, fun e => by omega⟩⟩
  unfold layR
  rw [h1]
  apply ByteArray.ext
  simp [ByteArray.data_append]
theorem head_ex (b : UInt8) (r : List UInt8) : ∃ rep : ByteArray, (⟨(b :: r).toArray⟩ : ByteArray) = rep ∧ rep.toList.isEmpty = false ∧ ∃ h : 0 < rep.size, rep[0]'h = b := by
  refine ⟨_, rfl, ?_, ⟨by show 0 < ((b :: r).toArray).size; simp, rfl⟩⟩
  rw [ByteArray.toList_eq]
  simp
theorem keepB {w w' : World} (hb : Below w.heap.size w w') {a : Addr} {u : Value} (h : w.cell? a = some u) : w'.cell? a = some u := (hb.cell (World.block_lt_of_cell? w _ h)).trans h
end Go.Proofs.YtladgfngddgnlaaGreatDoor

namespace Go.Proofs.YtladgfngddgnlaaGreatDoor
open Go.RowKit
set_option linter.unusedSimpArgs false
set_option linter.unusedVariables false

theorem bindL_other {g : Nat} {l : Ks} {who thing n : Int} {i : Nat} (h : (i : Int) ≠ who) : Led.kAt (bindL g l who thing n) i = Led.kAt l i := by
  have hg : ∀ (e : Int) (r : Int × Ks), (e = 0 → Led.kAt r.2 i = Led.kAt l i) → Led.kAt (Led.gate e l r).2 i = Led.kAt l i := fun e r hr => by
    unfold Led.gate
    split
    · next he => exact hr he
    · rfl
  unfold bindL
  split
  · split
    · refine hg _ _ fun e => ?_
      obtain ⟨z, hz, _⟩ := Led.refE_one e
      exact Led.if_two (Led.upd_other (by omega))
    · refine hg _ _ fun e => ?_
      obtain ⟨z, hz, _⟩ := Led.refE_one e
      exact Led.if_two (Led.upd_other (by omega))
  · split
    · refine hg _ _ fun e => ?_
      obtain ⟨z, hz, _⟩ := Led.refE_one (Led.refG_ok e).1
      exact Led.if_two (Led.upd_other (by omega))
    · refine hg _ _ fun e => ?_
      obtain ⟨z, hz, _⟩ := Led.refE_one (Led.refG_ok e).1
      exact Led.if_two (Led.upd_other (by omega))
theorem gate_other {l : Ks} {i : Nat} (e : Int) (r : Int × Ks) (hr : e = 0 → Led.kAt r.2 i = Led.kAt l i) : Led.kAt (Led.gate e l r).2 i = Led.kAt l i := by
  unfold Led.gate
  split
  · next he => exact hr he
  · rfl
/-- A request that is no tick changes its client's account alone. -/
theorem deedR_other {H : Hs} {who : Int} {o : Oo} (hk : o.k ≠ 1) {i : Nat} (h : (i : Int) ≠ who) : Led.kAt (deedR H who o).2.l i = Led.kAt H.l i := by
  unfold deedR
  rw [if_neg hk]
  repeat' split
  · refine gate_other _ _ fun e => ?_
    obtain ⟨z, hz, _⟩ := Led.refE_one e
    exact Led.if_two (Led.upd_other (by omega))
  · refine gate_other _ _ fun e => ?_
    obtain ⟨z, hz, _⟩ := Led.refE_one e
    exact Led.if_two (Led.upd_other (by omega))
  · refine gate_other _ _ fun e => ?_
    obtain ⟨z, hz, _⟩ := Led.refE_one (Led.refG_ok e).1
    exact Led.if_two (Led.upd_other (by omega))
  · refine gate_other _ _ fun e => ?_
    obtain ⟨z, hz, _⟩ := Led.refE_one (Led.refG_ok e).1
    exact Led.if_two (Led.upd_other (by omega))
  · unfold offerR
    repeat' split
    all_goals first | rfl | exact bindL_other h | (dsimp only; exact bindL_other h)
  · unfold wantR
    repeat' split
    all_goals first | rfl | exact bindL_other h | (dsimp only; exact bindL_other h)
  · unfold putR
    repeat' split
    all_goals first | rfl | exact bindL_other h | (dsimp only; exact bindL_other h)
  · unfold amendR amdR
    repeat' split
    all_goals first | rfl | exact bindL_other h | (dsimp only; exact bindL_other h)
  · unfold cancelR
    repeat' split
    all_goals first | rfl | exact bindL_other h | (dsimp only; exact bindL_other h)
  · rfl
theorem dm_set {l : List Clo.Dm} {i : Nat} (h : i < l.length) (a b : Int) : (l.set i ⟨Clo.wasOf l i, a⟩).set i ⟨Clo.wasOf (l.set i ⟨Clo.wasOf l i, a⟩) i, Clo.nowOf l i⟩ = l := by
  have e : Clo.wasOf (l.set i ⟨Clo.wasOf l i, a⟩) i = Clo.wasOf l i := by
    unfold Clo.wasOf Clo.dAt
    simp [h]
  rw [e, List.set_set]
  have e2 : (⟨Clo.wasOf l i, Clo.nowOf l i⟩ : Clo.Dm) = l[i] := by
    unfold Clo.wasOf Clo.nowOf
    rw [Clo.dAt_eq h]
  rw [e2, List.set_getElem_self]
/-- A bid that is taken back leaves the auction as it was. -/
theorem bid_back {A : Clo.Au} (hi : Clo.Inv A) {who n : Int} (h : (A.bid who n).1 = 0) : ((A.bid who n).2.bid who (Clo.nowOf A.ds who.toNat)).2 = A := by
  unfold Clo.Au.bid at h
  split at h
  · cases h
  · next h1 =>
    split at h
    · cases h
    · next h2 =>
      split at h
      · cases h
      · next h3 =>
        have hw : 0 ≤ who ∧ who < A.ds.length := by
          by_cases hw : 0 ≤ who ∧ who < A.ds.length
          · exact hw
          · exact absurd (Or.inl hw) h2
        have e : (A.bid who n).2 = { A with ds := A.ds.set who.toNat ⟨Clo.wasOf A.ds who.toNat, n⟩ } := by
          unfold Clo.Au.bid
          rw [if_neg h1, if_neg h2, if_neg h3]
        have hd := hi.dm who.toNat (by omega)
        have hwas : Clo.wasOf (A.ds.set who.toNat ⟨Clo.wasOf A.ds who.toNat, n⟩) who.toNat = Clo.wasOf A.ds who.toNat := by
          unfold Clo.wasOf Clo.dAt
          simp [show who.toNat < A.ds.length by omega]
        rw [e]
        unfold Clo.Au.bid
        rw [if_neg h1, if_neg (by
          show ¬ (¬ (0 ≤ who ∧ who < ((A.ds.set _ _).length : Int)) ∨ _)
          rw [List.length_set]
          omega), if_neg (by
          show ¬ (1 < A.round ∧ Clo.wasOf (A.ds.set _ _) _ < _)
          rw [hwas]
          intro hh
          have := hi.fall hh.1 who.toNat (by omega)
          omega)]
        show ({ A with ds := (A.ds.set who.toNat ⟨Clo.wasOf A.ds who.toNat, n⟩).set who.toNat ⟨Clo.wasOf (A.ds.set who.toNat ⟨Clo.wasOf A.ds who.toNat, n⟩) who.toNat, Clo.nowOf A.ds who.toNat⟩ } : Clo.Au) = A
        rw [dm_set (by omega) n 0]
theorem set_sameP {α : Type} {l : List α} {i : Nat} {a : α} (h : l[i]? = some a) : l.set i a = l := by
  obtain ⟨h1, h2⟩ := List.getElem?_eq_some_iff.1 h
  rw [← h2]
  exact List.set_getElem_self h1
theorem wantR_not {H : Hs} (hp : Pst H) {who : Int} {o : Oo} (h : (wantR H who o).1 ≠ 0) : (wantR H who o).2 = H := by
  unfold wantR at h ⊢
  split
  · rfl
  · next h1 =>
    rw [if_neg h1] at h
    split
    · rfl
    · next h2 =>
      rw [if_neg h2] at h
      split
      · next x hx =>
        simp only [hx] at h
        split
        · rfl
        · next h3 =>
          rw [if_neg h3] at h
          split
          · rfl
          · next h4 =>
            rw [if_neg h4] at h
            split
            · have hb := bid_back (hp _ x hx).2 (Classical.not_not.1 h4)
              rw [hb]
              show ({ H with ss := H.ss.set o.g.toNat (some (x.1, x.2)) } : Hs) = H
              rw [set_sameP (show H.ss[o.g.toNat]? = some (some (x.1, x.2)) from hx)]
            · next h5 => rw [if_neg h5] at h; exact absurd rfl h
      · rfl
/-- A request that is refused changes nothing. -/
theorem deedR_not {H : Hs} (hp : Pst H) {who : Int} {o : Oo} (h : (deedR H who o).1 ≠ 0) : (deedR H who o).2 = H := by
  unfold deedR at h ⊢
  split
  · next k => rw [if_pos k] at h; unfold tickR at h ⊢; split <;> simp_all
  next k1 =>
  rw [if_neg k1] at h
  split
  · next k => rw [if_pos k] at h; exact congrArg (fun l => ({ H with l := l } : Hs)) (Led.gate_not (fun h => Led.if_not h) h)
  next k2 =>
  rw [if_neg k2] at h
  split
  · next k => rw [if_pos k] at h; exact congrArg (fun l => ({ H with l := l } : Hs)) (Led.gate_not (fun h => Led.if_not h) h)
  next k3 =>
  rw [if_neg k3] at h
  split
  · next k => rw [if_pos k] at h; exact congrArg (fun l => ({ H with l := l } : Hs)) (Led.gate_not (fun h => Led.if_not h) h)
  next k4 =>
  rw [if_neg k4] at h
  split
  · next k => rw [if_pos k] at h; exact congrArg (fun l => ({ H with l := l } : Hs)) (Led.gate_not (fun h => Led.if_not h) h)
  next k5 =>
  rw [if_neg k5] at h
  split
  · next k =>
    rw [if_pos k] at h
    unfold offerR at h ⊢
    repeat' split
    all_goals simp_all
  next k6 =>
  rw [if_neg k6] at h
  split
  · next k => rw [if_pos k] at h; exact wantR_not hp h
  next k7 =>
  rw [if_neg k7] at h
  split
  · next k =>
    rw [if_pos k] at h
    unfold putR at h ⊢
    repeat' split
    all_goals simp_all
  next k8 =>
  rw [if_neg k8] at h
  split
  · next k =>
    rw [if_pos k] at h
    unfold amendR amdR at h ⊢
    repeat' split
    all_goals simp_all
  next k9 =>
  rw [if_neg k9] at h
  split
  · next k =>
    rw [if_pos k] at h
    unfold cancelR at h ⊢
    repeat' split
    all_goals simp_all
  · rfl
end Go.Proofs.YtladgfngddgnlaaGreatDoor

namespace Go.Proofs.YtladgfngddgnlaaGreatDoor
open Go.RowKit
set_option linter.unusedSimpArgs false
set_option linter.unusedVariables false

def bkKey (i : Nat) : ByteArray := (⟨#[98, 111, 111, 107, 47]⟩ : ByteArray) ++ Led.dig1 i
def slKey (i : Nat) : ByteArray := (⟨#[99, 108, 111, 99, 107, 47]⟩ : ByteArray) ++ Led.dig1 i
theorem keyOfBook_hs (i : Nat) (w : World) (h : i < 10) : Calls Tryz.prog 17 #[.int .i64 i] w fun e w' => e = .returned (.string (bkKey i)) ∧ w' = w := by
  have hs := Led.itoa_calls i w h
  have hc : (Led.dig1 i).size = 1 := rfl
  unfold bkKey
  generalize Led.dig1 i = d at *
  have hcat : ¬ 9223372036854775807 < 5 + d.size := by omega
  go_enter Tryz.func17, Tryz.ntmps17
  go_wp2_with fail
  refine hs.mono ?_
  rintro e w1 ⟨rfl, rfl⟩
  go_wp2
  go_ret
  exact ⟨rfl, rfl⟩
theorem keyOfSale_hs (i : Nat) (w : World) (h : i < 10) : Calls Tryz.prog 20 #[.int .i64 i] w fun e w' => e = .returned (.string (slKey i)) ∧ w' = w := by
  have hs := Led.itoa_calls i w h
  have hc : (Led.dig1 i).size = 1 := rfl
  unfold slKey
  generalize Led.dig1 i = d at *
  have hcat : ¬ 9223372036854775807 < 6 + d.size := by omega
  go_enter Tryz.func20, Tryz.ntmps20
  go_wp2_with fail
  refine hs.mono ?_
  rintro e w1 ⟨rfl, rfl⟩
  go_wp2
  go_ret
  exact ⟨rfl, rfl⟩
def bkRec (ms : List Cal.Bo) (i : Nat) : Rc := ⟨bkKey i, Cal.boB (ms[i]?.getD ⟨1, []⟩)⟩
def bkRecs (ms : List Cal.Bo) : Nat → List Rc
  | 0 => []
  | k + 1 => bkRecs ms k ++ [bkRec ms k]
theorem bkRecs_len (ms : List Cal.Bo) : ∀ k, (bkRecs ms k).length = k
  | 0 => rfl
  | k + 1 => by rw [bkRecs, List.length_append, bkRecs_len]; rfl
def slVal (x : Clo.Au × Int) : ByteArray := (⟨(enc x.2.toNat).toArray⟩ : ByteArray) ++ Clo.auB x.1
def slRec (k : Nat) (x : Clo.Au × Int) : Rc := ⟨slKey k, slVal x⟩
def slRecs (ss : List (Option (Clo.Au × Int))) : Nat → List Rc
  | 0 => []
  | k + 1 => match ss[k]? with
    | some (some x) => slRecs ss k ++ [slRec k x]
    | _ => slRecs ss k
theorem slRecs_len (ss : List (Option (Clo.Au × Int))) : ∀ k, (slRecs ss k).length ≤ k
  | 0 => Nat.le_refl _
  | k + 1 => by
    have := slRecs_len ss k
    unfold slRecs
    split
    · rw [List.length_append, List.length_singleton]; omega
    · omega
def nowRec (n : Int) : Rc := ⟨⟨#[110, 111, 119]⟩, ⟨(enc n.toNat).toArray⟩⟩
/-- Accounts and markets. -/
def hrec1 (H : Hs) (k : Nat) : List Rc := Led.recs H.g H.l ++ bkRecs H.ms k
def hrec2 (H : Hs) (k : Nat) : List Rc := hrec1 H H.g ++ slRecs H.ss k
/-- All records. -/
def hrecs (H : Hs) : List Rc := hrec2 H H.g ++ [nowRec H.now]
theorem hrec1_len (H : Hs) (k : Nat) : (hrec1 H k).length = H.l.length + k := by
  unfold hrec1
  rw [List.length_append, Led.recs_len, bkRecs_len]
theorem hrec1_succ (H : Hs) (k : Nat) : hrec1 H (k + 1) = hrec1 H k ++ [bkRec H.ms k] := by
  unfold hrec1
  rw [bkRecs, List.append_assoc]
theorem hrec2_len (H : Hs) (k : Nat) : (hrec2 H k).length ≤ H.l.length + H.g + k := by
  unfold hrec2
  rw [List.length_append, hrec1_len]
  have := slRecs_len H.ss k
  omega
theorem hrec2_some {H : Hs} {k : Nat} {x : Clo.Au × Int} (h : H.ss[k]? = some (some x)) : hrec2 H (k + 1) = hrec2 H k ++ [slRec k x] := by
  unfold hrec2
  rw [slRecs, h]
  simp
theorem hrec2_none {H : Hs} {k : Nat} (h : H.ss[k]? = some none) : hrec2 H (k + 1) = hrec2 H k := by
  unfold hrec2
  rw [slRecs, h]
theorem auB_size {A : Clo.Au} (h : A.ds.length ≤ 16) : (Clo.auB A).size ≤ 1000 := by
  show ((encs (Clo.nums A)).toArray).size ≤ 1000
  rw [List.size_toArray]
  have := encs_len (Clo.nums A)
  unfold Clo.nums at *
  rw [Clo.numsK_len] at this
  omega
end Go.Proofs.YtladgfngddgnlaaGreatDoor
