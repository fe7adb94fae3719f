/- A house of three clients and two goods behind some requests. -/
import Derived.Test.YtgofjheoebabeaaGreatHx48
import Derived.Deep.DeepCutAuto
import Derived.Deep.CutBlock
import Derived.Deep.RegionHeld3
import Derived.Deep.RegionHeld
import Derived.Test.YtgofjheoebabeaaGreatHx41
import Derived.Test.YtgofjheoebabeaaGreatHx26
namespace Go.Proofs.YtgofjheoebabeaaGreat
open Go.RowKit
set_option linter.unusedSimpArgs false
set_option linter.unusedVariables false
variable {base : Nat}

def stepR (H : Hs) (a : Rq) : Hs := (doR H a.who a.stamp a.text).2.2
def runsR (H : Hs) (l : List Rq) : Hs := l.foldl stepR H
theorem runsR_take (H : Hs) (l : List Rq) (k : Nat) (h : k < l.length) : runsR H (l.take (k + 1)) = (doR (runsR H (l.take k)) l[k].who l[k].stamp l[k].text).2.2 := by
  unfold runsR
  rw [List.take_succ_eq_append_getElem h, List.foldl_append]; rfl
theorem new_pst (c g : Nat) : Pst (Hs.new c g) := by
  intro i x hx
  simp only [Hs.new, List.getElem?_replicate] at hx
  split at hx
  · cases hx
  · cases hx
theorem runsR_pst {H : Hs} (h : Pst H) : ∀ l : List Rq, Pst (runsR H l) := by
  intro l
  unfold runsR
  induction l generalizing H with
  | nil => exact h
  | cons a l ih => exact ih (doR_pst h _ _ _)
theorem text_size (a : Rq) (h : a.txt.size ≤ 140737488351232) : a.text.size ≤ maxLen := by
  have hm : 140737488351232 ≤ maxLen := by unfold maxLen; omega
  unfold Rq.text
  split
  · omega
  · split
    · have h1 := ints_take_len a.op 5
      have e8 : (le8 a.op.pr).length = 8 := leN_len _ _
      have : (opB a.op).length ≤ 58 := by
        unfold opB
        rw [List.length_append, e8]
        have e : a.op.ints.take 5 = a.op.ints := List.take_of_length_le (by rw [ints_len]; omega)
        rw [e] at h1
        omega
      show (opB a.op).toArray.size ≤ maxLen
      rw [List.size_toArray]
      omega
    · exact Nat.zero_le _
def h32 : Hs := Hs.new 3 2
theorem keepCellH {w w' : World} {k o : Nat} {v : Value} (hb : Below k w w') {c : Nat} (h : w.cell? ⟨c, o, none⟩ = some v) (hc : c < k) : w'.cell? ⟨c, o, none⟩ = some v := (hb.cell (p := ⟨c, o, none⟩) hc).trans h
set_option maxRecDepth 100000 in
set_option maxHeartbeats 4000000 in
theorem begun_hs (v : Value) (ls : List Rq) (w : World) (hl : Rqs w v ls) (hz : ls.length * 88 ≤ 140737488351232) :
    Calls Tryz.prog 7 #[v] w fun e w' => ∃ X, e = .returned (.pointer (some ⟨X.p, 0, none⟩)) ∧ Hm w' w.heap.size X (runsR h32 (ls.take 60)) ∧ Below w.heap.size w w' := by
  have HN : Hid _ := new_hs 3 2 w (by omega) (by omega) (by omega) (by omega)
  obtain ⟨a, cap, rfl, hc⟩ := hl.any
  have HC : Hid _ := hc
  obtain ⟨n, hn⟩ : ∃ n, ls.length = n := ⟨_, rfl⟩
  rw [hn] at hz ⊢
  have HLn : Hid _ := hn
  clear hc hl hn
  go_enter Tryz.func7, Tryz.ntmps7
  go_wp2_with fail
  refine Calls.mono HN.out ?_
  rintro e w1 ⟨X, rfl, hm, b1⟩
  have HI : Hid (∃ X', Hm w1 w.heap.size X' (runsR h32 (ls.take 0)) ∧ X'.p = X.p ∧ Below w.heap.size w w1) := ⟨X, hm, rfl, b1⟩
  clear hm b1 HN
  go_wp2_with fail
  go_loopw [5] (fun i wr => ∃ k : Nat, k ≤ n ∧ k ≤ 60 ∧ i = .int .i64 k ∧ Hid (∃ X', Hm wr w.heap.size X' (runsR h32 (ls.take k)) ∧ X'.p = X.p ∧ Below w.heap.size w wr)) (fun i _ => n - (intOf i).toNat)
  case atStart => exact ⟨0, Nat.zero_le _, by omega, rfl, HI⟩
  case round =>
    clear HI
    obtain ⟨k, hk, hk1, rfl, HR⟩ := hrel
    by_cases hgo : k < n ∧ k < 60
    · obtain ⟨hlt, hlt1⟩ := hgo
      have hd1 : decide ((k : Int) < n) = true := by simp only [decide_eq_true_eq]; omega
      have hd2 : decide ((k : Int) < 60) = true := by simp only [decide_eq_true_eq]; omega
      have hlt' : k < ls.length := by rw [HLn.out]; exact hlt
      obtain ⟨q, off, hga, _, hg, hcel, hfit, hsz⟩ := HC.out k hlt'
      subst hga
      obtain ⟨X1, m1, p1, br⟩ := HR.out
      clear HR
      have d0 := keepCellH br (hcel 0 _ rfl) hg
      have d1 := keepCellH br (hcel 1 _ rfl) hg
      have d2 := keepCellH br (hcel 2 _ rfl) hg
      have d3 := keepCellH br (hcel 3 _ rfl) hg
      have d4 := keepCellH br (hcel 4 _ rfl) hg
      have d5 := keepCellH br (hcel 5 _ rfl) hg
      have d6 := keepCellH br (hcel 6 _ rfl) hg
      have d7 := keepCellH br (hcel 7 _ rfl) hg
      have d8 := keepCellH br (hcel 8 _ rfl) hg
      have d9 := keepCellH br (hcel 9 _ rfl) hg
      rw [Nat.add_zero] at d0
      have hrt := runsR_take h32 ls k hlt'
      have HTx : Hid _ := fun wx => text_hs ls[k] wx hfit
      have HDo : Hid _ := fun wx hm hB => do_calls (base := w.heap.size) wx (X := X1) (H := runsR h32 (ls.take k)) hm hB (runsR_pst (new_pst 3 2) _) ls[k].who ls[k].stamp ls[k].text (text_size _ hsz)
      rw [p1] at HDo
      have hnf : ¬ X1.foot q := fun e => by have := m1.foot_base q e; omega
      have hzr := br.size
      have HM : Hid (Hm wr w.heap.size X1 (runsR h32 (ls.take k))) := m1
      have HX : Hid (X1.p = X.p ∧ Below w.heap.size w wr) := ⟨p1, br⟩
      have HHC : Hid _ := HC.out
      obtain ⟨D, hD⟩ : ∃ D, doR (runsR h32 (ls.take k)) ls[k].who ls[k].stamp ls[k].text = D := ⟨_, rfl⟩
      rw [hD] at hrt HDo
      have HRT : Hid _ := hrt
      obtain ⟨rq, hrq⟩ : ∃ rq, ls[k] = rq := ⟨_, rfl⟩
      rw [hrq] at HTx HDo d0 d1 d2 d3 d4 d5 d6 d7 d8 d9
      generalize rq.text = tx at *
      unfold Rq.val Rq.cells at HTx
      obtain ⟨o, ho⟩ : ∃ o, off + k * 10 = o := ⟨_, rfl⟩
      rw [ho] at d0 d1 d2 d3 d4 d5 d6 d7 d8 d9
      have HIx : Hid _ := ho
      clear ho
      generalize rq.who = aw at *
      generalize rq.stamp = as_ at *
      generalize rq.op.k = ok at *
      generalize rq.op.g = og at *
      generalize rq.op.a = oa at *
      generalize rq.op.d = od at *
      generalize rq.op.i = oi at *
      generalize rq.op.pr = op at *
      generalize rq.raw = ar at *
      generalize rq.txt = at_ at *
      clear hrq hrt hD m1 p1 br hcel hfit hsz hlt'
      go_wp2_with fail
      go_upto_region 7 with fail
      refine wp_region_held_drew (S := (fun wx => Chg X1.foot wr wx)) (by kernel_rfl) (Chg.of_below (Below.refl wr.heap.size wr) : Chg X1.foot wr wr).drew (fun hS => ?_)
      refine tkG (i := 0) (v := .pointer (some ⟨X.p, 0, none⟩)) rfl hS ?_
      refine tkG (i := 1) (v := .slice (some ⟨q, off, none⟩) n cap) rfl hS ?_
      refine tkG (i := 2) (v := .int .i64 k) rfl hS ?_
      refine tkH (i := 3) (v := .pointer (some ⟨q, o, none⟩)) rfl (fun w3 hS => by go_simp; exact HIx.out) hS ?_
      refine tkG (i := 4) (v := .pointer (some ⟨q, o, none⟩)) rfl hS ?_
      refine tkH (i := 5) (v := .int .i64 aw) rfl (fun w3 hS => by have f0 : w3.cell? ⟨q, o, none⟩ = some (.int .i64 aw) := Chg.cell hS d0 hnf; have f1 : w3.cell? ⟨q, o + 1, none⟩ = some (.int .i64 as_) := Chg.cell hS d1 hnf; have f2 : w3.cell? ⟨q, o + 2, none⟩ = some (.int .i64 ok) := Chg.cell hS d2 hnf; have f3 : w3.cell? ⟨q, o + 3, none⟩ = some (.int .i64 og) := Chg.cell hS d3 hnf; have f4 : w3.cell? ⟨q, o + 4, none⟩ = some (.int .i64 oa) := Chg.cell hS d4 hnf; have f5 : w3.cell? ⟨q, o + 5, none⟩ = some (.int .i64 od) := Chg.cell hS d5 hnf; have f6 : w3.cell? ⟨q, o + 6, none⟩ = some (.int .i64 oi) := Chg.cell hS d6 hnf; have f7 : w3.cell? ⟨q, o + 7, none⟩ = some (.float .f64 op) := Chg.cell hS d7 hnf; have f8 : w3.cell? ⟨q, o + 8, none⟩ = some (.bool ar) := Chg.cell hS d8 hnf; have f9 : w3.cell? ⟨q, o + 9, none⟩ = some (.string at_) := Chg.cell hS d9 hnf; go_simp) hS ?_
      refine tkG (i := 6) (v := .slice (some ⟨q, off, none⟩) n cap) rfl hS ?_
      refine tkG (i := 7) (v := .int .i64 k) rfl hS ?_
      refine tkH (i := 8) (v := .pointer (some ⟨q, o, none⟩)) rfl (fun w3 hS => by go_simp; exact HIx.out) hS ?_
      refine tkG (i := 9) (v := .pointer (some ⟨q, o + 1, none⟩)) rfl hS ?_
      refine tkH (i := 10) (v := .int .i64 as_) rfl (fun w3 hS => by have f0 : w3.cell? ⟨q, o, none⟩ = some (.int .i64 aw) := Chg.cell hS d0 hnf; have f1 : w3.cell? ⟨q, o + 1, none⟩ = some (.int .i64 as_) := Chg.cell hS d1 hnf; have f2 : w3.cell? ⟨q, o + 2, none⟩ = some (.int .i64 ok) := Chg.cell hS d2 hnf; have f3 : w3.cell? ⟨q, o + 3, none⟩ = some (.int .i64 og) := Chg.cell hS d3 hnf; have f4 : w3.cell? ⟨q, o + 4, none⟩ = some (.int .i64 oa) := Chg.cell hS d4 hnf; have f5 : w3.cell? ⟨q, o + 5, none⟩ = some (.int .i64 od) := Chg.cell hS d5 hnf; have f6 : w3.cell? ⟨q, o + 6, none⟩ = some (.int .i64 oi) := Chg.cell hS d6 hnf; have f7 : w3.cell? ⟨q, o + 7, none⟩ = some (.float .f64 op) := Chg.cell hS d7 hnf; have f8 : w3.cell? ⟨q, o + 8, none⟩ = some (.bool ar) := Chg.cell hS d8 hnf; have f9 : w3.cell? ⟨q, o + 9, none⟩ = some (.string at_) := Chg.cell hS d9 hnf; go_simp) hS ?_
      refine tkG (i := 11) (v := .slice (some ⟨q, off, none⟩) n cap) rfl hS ?_
      refine tkG (i := 12) (v := .int .i64 k) rfl hS ?_
      refine tkH (i := 13) (v := .pointer (some ⟨q, o, none⟩)) rfl (fun w3 hS => by go_simp; exact HIx.out) hS ?_
      refine tkH (i := 14) (v := .agg #[.int .i64 aw, .int .i64 as_, .int .i64 ok, .int .i64 og, .int .i64 oa, .int .i64 od, .int .i64 oi, .float .f64 op, .bool ar, .string at_]) rfl (fun w3 hS => by have f0 : w3.cell? ⟨q, o, none⟩ = some (.int .i64 aw) := Chg.cell hS d0 hnf; have f1 : w3.cell? ⟨q, o + 1, none⟩ = some (.int .i64 as_) := Chg.cell hS d1 hnf; have f2 : w3.cell? ⟨q, o + 2, none⟩ = some (.int .i64 ok) := Chg.cell hS d2 hnf; have f3 : w3.cell? ⟨q, o + 3, none⟩ = some (.int .i64 og) := Chg.cell hS d3 hnf; have f4 : w3.cell? ⟨q, o + 4, none⟩ = some (.int .i64 oa) := Chg.cell hS d4 hnf; have f5 : w3.cell? ⟨q, o + 5, none⟩ = some (.int .i64 od) := Chg.cell hS d5 hnf; have f6 : w3.cell? ⟨q, o + 6, none⟩ = some (.int .i64 oi) := Chg.cell hS d6 hnf; have f7 : w3.cell? ⟨q, o + 7, none⟩ = some (.float .f64 op) := Chg.cell hS d7 hnf; have f8 : w3.cell? ⟨q, o + 8, none⟩ = some (.bool ar) := Chg.cell hS d8 hnf; have f9 : w3.cell? ⟨q, o + 9, none⟩ = some (.string at_) := Chg.cell hS d9 hnf; go_simp) hS ?_
      refine wpAnyH_ready (rs := [15]) (by kernel_rfl) (by simp) ?_
      refine AllReadyH.cons rfl (fun K hK => ?_) AllReadyH.nil
      go_simp
      refine (HTx.out _).mono ?_
      rintro e w2 ⟨rfl, b2⟩
      have b2' : Below wr.heap.size wr w2 := ⟨b2.os, b2.tape, b2.output, b2.size, b2.block⟩
      have C2 : Chg X1.foot wr w2 := Chg.of_below b2'
      refine hK.out _ _ C2 (fun hS => ?_)
      clear hK
      refine wpAnyH_ready (rs := [16]) (by kernel_rfl) (by simp) ?_
      refine AllReadyH.cons rfl (fun K hK => ?_) AllReadyH.nil
      go_simp
      refine (HDo.out w2 (HM.out.below b2') (Nat.le_trans hzr b2'.size)).mono ?_
      rintro e w3 ⟨rfl, X3, m3, t3, p3⟩
      have C3 : Chg X1.foot wr w3 := C2.trans (fun q hq => Or.inl hq) t3.chg
      refine hK.out _ _ C3 (fun hS => ?_)
      clear hK
      refine wpAnyH_done (by kernel_rfl) ?_ _
      have HF : Hid (∃ X', Hm w3 w.heap.size X' (runsR h32 (ls.take (k + 1))) ∧ X'.p = X.p ∧ Below w.heap.size w w3) :=
        ⟨X3, by rw [HRT.out]; exact m3, p3, below_chg HX.out.2 hzr C3 (fun q hq => HM.out.foot_base q hq)⟩
      clear m3 t3 p3 C3 C2 b2 b2' HDo HTx HX HM hnf d0 d1 d2 d3 d4 d5 d6 d7 d8 d9 HRT
      go_wp2
      exact ⟨⟨k + 1, by omega, by omega, by norm_cast, HF⟩, by simp [intOf]; omega⟩
    · have htk : ls.take k = ls.take 60 := by
        by_cases h1 : k < n
        · have : k = 60 := by omega
          rw [this]
        · have hl := HLn.out
          rw [List.take_of_length_le (by omega), List.take_of_length_le (by omega)]
      have HE : Hid (∃ X', Hm wr w.heap.size X' (runsR h32 (ls.take 60)) ∧ X'.p = X.p ∧ Below w.heap.size w wr) := by rw [← htk]; exact HR
      clear HR htk
      by_cases h1 : k < n
      · have hd1 : decide ((k : Int) < n) = true := by simp only [decide_eq_true_eq]; omega
        have hd2 : decide ((k : Int) < 60) = false := by simp only [decide_eq_false_iff_not]; omega
        go_wp2
        go_ret
        obtain ⟨X', m, p, b⟩ := HE.out
        exact ⟨X', by rw [p]; rfl, m, b⟩
      · have hd1 : decide ((k : Int) < n) = false := by simp only [decide_eq_false_iff_not]; omega
        go_wp2
        go_ret
        obtain ⟨X', m, p, b⟩ := HE.out
        exact ⟨X', by rw [p]; rfl, m, b⟩
end Go.Proofs.YtgofjheoebabeaaGreat

namespace Go.Proofs.YtgofjheoebabeaaGreat
open Go.RowKit
set_option linter.unusedSimpArgs false
set_option linter.unusedVariables false

theorem doR_len {H : Hs} (hg : H.g ≤ 4) (who stamp : Int) (op : ByteArray) : (doR H who stamp op).2.2.l.length = H.l.length ∧ (doR H who stamp op).2.2.g = H.g ∧ (doR H who stamp op).2.2.ms.length = H.ms.length := by
  unfold doR
  split
  · next hr =>
    unfold reqR
    split
    · next o _ =>
      have := (deedR_dps hg who o).done (V := valR H who op) hr
      exact ⟨this.len, this.g, this.nms⟩
    · exact ⟨markR_len, rfl, rfl⟩
  · exact ⟨rfl, rfl, rfl⟩
theorem runsR_len {H : Hs} (hg : H.g ≤ 4) : ∀ l : List Rq, (runsR H l).l.length = H.l.length ∧ (runsR H l).g = H.g ∧ (runsR H l).ms.length = H.ms.length := by
  intro l
  unfold runsR
  induction l generalizing H with
  | nil => exact ⟨rfl, rfl, rfl⟩
  | cons a l ih =>
    have h1 := doR_len hg a.who a.stamp a.text
    have h2 := ih (H := stepR H a) (by unfold stepR; rw [h1.2.1]; exact hg)
    exact ⟨h2.1.trans h1.1, h2.2.1.trans h1.2.1, h2.2.2.trans h1.2.2⟩
theorem runs3 (l : List Rq) : (runsR h32 l).l.length = 3 ∧ (runsR h32 l).g = 2 ∧ (runsR h32 l).ms.length = 2 := by
  have h := runsR_len (H := h32) (by decide) l
  exact ⟨h.1.trans (by kernel_rfl), h.2.1.trans (by kernel_rfl), h.2.2.trans (by kernel_rfl)⟩
end Go.Proofs.YtgofjheoebabeaaGreat

namespace Go.Proofs.YtgofjheoebabeaaGreat
open Go.RowKit
set_option linter.unusedSimpArgs false
set_option linter.unusedVariables false

theorem ofNat_zero {n : Nat} (h : n < 256) : UInt8.ofNat n = 0 ↔ n = 0 := by
  constructor
  · intro e
    have := congrArg UInt8.toNat e
    simpa [Nat.mod_eq_of_lt h] using this
  · intro e; subst e; rfl
theorem enc_head {n : Nat} : ∃ (b : UInt8) (r : List UInt8), enc n = b :: r ∧ (b = 0 ↔ n = 0) := by
  unfold enc encF
  split
  · next h => exact ⟨_, _, rfl, ofNat_zero (by omega)⟩
  · next h => exact ⟨_, _, rfl, (ofNat_zero (by omega)).trans ⟨fun e => by omega, fun e => by omega⟩⟩
theorem layR_head {c V : Int} (hc : 0 ≤ c) : ∃ (b : UInt8) (r : List UInt8), layR c V = ⟨(b :: r).toArray⟩ ∧ (b = 0 ↔ c = 0) := by
  obtain ⟨b, r, h1, h2⟩ := enc_head (n := c.toNat)
  refine ⟨b, r ++ enc V.toNat, ?_, h2.trans ⟨fun e => by omega, fun e => by omega⟩⟩
  unfold layR
  rw [h1]
  apply ByteArray.ext
  simp [ByteArray.data_append]
theorem doR_rps {H : Hs} (hg : H.g ≤ 4) {who stamp : Int} {op : ByteArray} (hr : refR H.l who stamp = 0) {o : Oo} (ho : ofOpR op = .ok o) : Rps H (doR H who stamp op).2.2 (reqR H who op).1 o := by
  unfold doR
  rw [if_pos hr]
  have e : reqR H who op = deedR H who o := by unfold reqR; rw [ho]
  have h := (deedR_dps hg who o).done (V := valR H who op) hr
  rw [e]
  exact h
end Go.Proofs.YtgofjheoebabeaaGreat
