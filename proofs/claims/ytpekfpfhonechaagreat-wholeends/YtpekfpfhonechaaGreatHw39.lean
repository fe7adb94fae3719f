/- The house: the table of deeds; a request. -/
import Derived.Test.YtpekfpfhonechaaGreatHw38
import Derived.Deep.RegionHeld3
import Derived.Deep.DeepCutAuto
import Derived.Deep.CutBlock
import Derived.Deep.RegionHeld
namespace Go.Proofs.YtpekfpfhonechaaGreat
open Go.RowKit
open Go.ChangeMaps (setBlock)
set_option linter.unusedSimpArgs false
set_option linter.unusedVariables false
variable {base : Nat}

def deedsKV : KVs := [((1 : Int), (.func (.func 54) #[] #[] : Value)), ((2 : Int), (.func (.func 55) #[] #[] : Value)), ((3 : Int), (.func (.func 56) #[] #[] : Value)), ((4 : Int), (.func (.func 57) #[] #[] : Value)), ((5 : Int), (.func (.func 58) #[] #[] : Value)), ((6 : Int), (.func (.func 59) #[] #[] : Value)), ((7 : Int), (.func (.func 60) #[] #[] : Value)), ((8 : Int), (.func (.func 61) #[] #[] : Value)), ((9 : Int), (.func (.func 62) #[] #[] : Value)), ((10 : Int), (.func (.func 63) #[] #[] : Value))]
set_option maxRecDepth 100000 in
set_option maxHeartbeats 2000000 in
theorem deeds_hs (w : World) : Calls Tryz.prog 46 #[] w fun e w' => e = .returned (.map (some w.heap.size)) ∧ MapAt w' (some w.heap.size) deedsKV ∧ Below w.heap.size w w' := by
  obtain ⟨W0, hW0, M0, B0⟩ : ∃ W0, (w.alloc (.map #[] 0)) = W0 ∧ MapAt W0 (some w.heap.size) (deedsKV.take 0) ∧ Below w.heap.size w W0 := ⟨_, rfl, heap_alloc_new _ _, by go_grown⟩
  have hmk : ∀ t wx, (Instr.makeMap t none).run Tryz.prog wx = .ok (.map (some wx.heap.size)) (wx.alloc (.map #[] 0)) := fun _ _ => rfl
  have n1 := run_note (P := Tryz.prog) (T := 120) (E := 118) Tryz.underlying120 Tryz.underlying3 M0 1 (.func (.func 54) #[] #[])
  obtain ⟨W1, hW1, M1, C1⟩ : ∃ W1, setBlock W0 w.heap.size (.map (ents (vput (deedsKV.take 0) 1 (.func (.func 54) #[] #[]))) (vput (deedsKV.take 0) 1 (.func (.func 54) #[] #[])).length) = W1 ∧ MapAt W1 (some w.heap.size) (deedsKV.take 1) ∧ Chg (fun q => q = w.heap.size) W0 W1 :=
    ⟨_, rfl, (show vput (deedsKV.take 0) 1 (.func (.func 54) #[] #[]) = deedsKV.take 1 by kernel_rfl) ▸ MapAt.set M0 _, set_chg _ _ _⟩
  rw [hW1] at n1
  clear hW1
  have n2 := run_note (P := Tryz.prog) (T := 120) (E := 118) Tryz.underlying120 Tryz.underlying3 M1 2 (.func (.func 55) #[] #[])
  obtain ⟨W2, hW2, M2, C2⟩ : ∃ W2, setBlock W1 w.heap.size (.map (ents (vput (deedsKV.take 1) 2 (.func (.func 55) #[] #[]))) (vput (deedsKV.take 1) 2 (.func (.func 55) #[] #[])).length) = W2 ∧ MapAt W2 (some w.heap.size) (deedsKV.take 2) ∧ Chg (fun q => q = w.heap.size) W0 W2 :=
    ⟨_, rfl, (show vput (deedsKV.take 1) 2 (.func (.func 55) #[] #[]) = deedsKV.take 2 by kernel_rfl) ▸ MapAt.set M1 _, C1.trans (fun q hq => Or.inl hq) (set_chg _ _ _)⟩
  rw [hW2] at n2
  clear hW2
  have n3 := run_note (P := Tryz.prog) (T := 120) (E := 118) Tryz.underlying120 Tryz.underlying3 M2 3 (.func (.func 56) #[] #[])
  obtain ⟨W3, hW3, M3, C3⟩ : ∃ W3, setBlock W2 w.heap.size (.map (ents (vput (deedsKV.take 2) 3 (.func (.func 56) #[] #[]))) (vput (deedsKV.take 2) 3 (.func (.func 56) #[] #[])).length) = W3 ∧ MapAt W3 (some w.heap.size) (deedsKV.take 3) ∧ Chg (fun q => q = w.heap.size) W0 W3 :=
    ⟨_, rfl, (show vput (deedsKV.take 2) 3 (.func (.func 56) #[] #[]) = deedsKV.take 3 by kernel_rfl) ▸ MapAt.set M2 _, C2.trans (fun q hq => Or.inl hq) (set_chg _ _ _)⟩
  rw [hW3] at n3
  clear hW3
  have n4 := run_note (P := Tryz.prog) (T := 120) (E := 118) Tryz.underlying120 Tryz.underlying3 M3 4 (.func (.func 57) #[] #[])
  obtain ⟨W4, hW4, M4, C4⟩ : ∃ W4, setBlock W3 w.heap.size (.map (ents (vput (deedsKV.take 3) 4 (.func (.func 57) #[] #[]))) (vput (deedsKV.take 3) 4 (.func (.func 57) #[] #[])).length) = W4 ∧ MapAt W4 (some w.heap.size) (deedsKV.take 4) ∧ Chg (fun q => q = w.heap.size) W0 W4 :=
    ⟨_, rfl, (show vput (deedsKV.take 3) 4 (.func (.func 57) #[] #[]) = deedsKV.take 4 by kernel_rfl) ▸ MapAt.set M3 _, C3.trans (fun q hq => Or.inl hq) (set_chg _ _ _)⟩
  rw [hW4] at n4
  clear hW4
  have n5 := run_note (P := Tryz.prog) (T := 120) (E := 118) Tryz.underlying120 Tryz.underlying3 M4 5 (.func (.func 58) #[] #[])
  obtain ⟨W5, hW5, M5, C5⟩ : ∃ W5, setBlock W4 w.heap.size (.map (ents (vput (deedsKV.take 4) 5 (.func (.func 58) #[] #[]))) (vput (deedsKV.take 4) 5 (.func (.func 58) #[] #[])).length) = W5 ∧ MapAt W5 (some w.heap.size) (deedsKV.take 5) ∧ Chg (fun q => q = w.heap.size) W0 W5 :=
    ⟨_, rfl, (show vput (deedsKV.take 4) 5 (.func (.func 58) #[] #[]) = deedsKV.take 5 by kernel_rfl) ▸ MapAt.set M4 _, C4.trans (fun q hq => Or.inl hq) (set_chg _ _ _)⟩
  rw [hW5] at n5
  clear hW5
  have n6 := run_note (P := Tryz.prog) (T := 120) (E := 118) Tryz.underlying120 Tryz.underlying3 M5 6 (.func (.func 59) #[] #[])
  obtain ⟨W6, hW6, M6, C6⟩ : ∃ W6, setBlock W5 w.heap.size (.map (ents (vput (deedsKV.take 5) 6 (.func (.func 59) #[] #[]))) (vput (deedsKV.take 5) 6 (.func (.func 59) #[] #[])).length) = W6 ∧ MapAt W6 (some w.heap.size) (deedsKV.take 6) ∧ Chg (fun q => q = w.heap.size) W0 W6 :=
    ⟨_, rfl, (show vput (deedsKV.take 5) 6 (.func (.func 59) #[] #[]) = deedsKV.take 6 by kernel_rfl) ▸ MapAt.set M5 _, C5.trans (fun q hq => Or.inl hq) (set_chg _ _ _)⟩
  rw [hW6] at n6
  clear hW6
  have n7 := run_note (P := Tryz.prog) (T := 120) (E := 118) Tryz.underlying120 Tryz.underlying3 M6 7 (.func (.func 60) #[] #[])
  obtain ⟨W7, hW7, M7, C7⟩ : ∃ W7, setBlock W6 w.heap.size (.map (ents (vput (deedsKV.take 6) 7 (.func (.func 60) #[] #[]))) (vput (deedsKV.take 6) 7 (.func (.func 60) #[] #[])).length) = W7 ∧ MapAt W7 (some w.heap.size) (deedsKV.take 7) ∧ Chg (fun q => q = w.heap.size) W0 W7 :=
    ⟨_, rfl, (show vput (deedsKV.take 6) 7 (.func (.func 60) #[] #[]) = deedsKV.take 7 by kernel_rfl) ▸ MapAt.set M6 _, C6.trans (fun q hq => Or.inl hq) (set_chg _ _ _)⟩
  rw [hW7] at n7
  clear hW7
  have n8 := run_note (P := Tryz.prog) (T := 120) (E := 118) Tryz.underlying120 Tryz.underlying3 M7 8 (.func (.func 61) #[] #[])
  obtain ⟨W8, hW8, M8, C8⟩ : ∃ W8, setBlock W7 w.heap.size (.map (ents (vput (deedsKV.take 7) 8 (.func (.func 61) #[] #[]))) (vput (deedsKV.take 7) 8 (.func (.func 61) #[] #[])).length) = W8 ∧ MapAt W8 (some w.heap.size) (deedsKV.take 8) ∧ Chg (fun q => q = w.heap.size) W0 W8 :=
    ⟨_, rfl, (show vput (deedsKV.take 7) 8 (.func (.func 61) #[] #[]) = deedsKV.take 8 by kernel_rfl) ▸ MapAt.set M7 _, C7.trans (fun q hq => Or.inl hq) (set_chg _ _ _)⟩
  rw [hW8] at n8
  clear hW8
  have n9 := run_note (P := Tryz.prog) (T := 120) (E := 118) Tryz.underlying120 Tryz.underlying3 M8 9 (.func (.func 62) #[] #[])
  obtain ⟨W9, hW9, M9, C9⟩ : ∃ W9, setBlock W8 w.heap.size (.map (ents (vput (deedsKV.take 8) 9 (.func (.func 62) #[] #[]))) (vput (deedsKV.take 8) 9 (.func (.func 62) #[] #[])).length) = W9 ∧ MapAt W9 (some w.heap.size) (deedsKV.take 9) ∧ Chg (fun q => q = w.heap.size) W0 W9 :=
    ⟨_, rfl, (show vput (deedsKV.take 8) 9 (.func (.func 62) #[] #[]) = deedsKV.take 9 by kernel_rfl) ▸ MapAt.set M8 _, C8.trans (fun q hq => Or.inl hq) (set_chg _ _ _)⟩
  rw [hW9] at n9
  clear hW9
  have n10 := run_note (P := Tryz.prog) (T := 120) (E := 118) Tryz.underlying120 Tryz.underlying3 M9 10 (.func (.func 63) #[] #[])
  obtain ⟨W10, hW10, M10, C10⟩ : ∃ W10, setBlock W9 w.heap.size (.map (ents (vput (deedsKV.take 9) 10 (.func (.func 63) #[] #[]))) (vput (deedsKV.take 9) 10 (.func (.func 63) #[] #[])).length) = W10 ∧ MapAt W10 (some w.heap.size) (deedsKV.take 10) ∧ Chg (fun q => q = w.heap.size) W0 W10 :=
    ⟨_, rfl, (show vput (deedsKV.take 9) 10 (.func (.func 63) #[] #[]) = deedsKV.take 10 by kernel_rfl) ▸ MapAt.set M9 _, C9.trans (fun q hq => Or.inl hq) (set_chg _ _ _)⟩
  rw [hW10] at n10
  clear hW10
  have HM : Hid _ := M10
  have HB : Hid (Below w.heap.size w W10) := below_chg B0 (by have := B0.size; omega) C10 (fun q hq => by omega)
  clear M0 M1 M2 M3 M4 M5 M6 M7 M8 M9 M10 C1 C2 C3 C4 C5 C6 C7 C8 C9 C10 B0
  go_enter Tryz.func46, Tryz.ntmps46
  go_wp2
  go_ret
  exact ⟨rfl, HM.out, HB.out⟩
end Go.Proofs.YtpekfpfhonechaaGreat

namespace Go.Proofs.YtpekfpfhonechaaGreat
open Go.RowKit
open Go.ChangeMaps (setBlock)
set_option linter.unusedSimpArgs false
set_option linter.unusedVariables false
variable {base : Nat}

theorem ofOpR_good {s : ByteArray} {o : Oo} (h : ofOpR s = .ok o) : o.good ∧ 0 ≤ o.k ∧ o.k ≤ 9007199254740992 := by
  unfold ofOpR at h
  split at h
  · cases h
  · cases hr : rdOp s 0 with
    | error e => rw [hr] at h; cases h
    | ok x =>
      obtain ⟨o', nx⟩ := x
      rw [hr] at h
      simp only at h
      split at h
      · cases h
      · cases h
        unfold rdOp at hr
        cases h0 : rdInt s 0 with
        | error e => rw [h0] at hr; cases hr
        | ok y0 =>
          obtain ⟨n0, a0⟩ := y0
          rw [h0] at hr
          simp only [rdOp1] at hr
          cases h1 : rdInt s a0 with
          | error e => rw [h1] at hr; cases hr
          | ok y1 =>
            obtain ⟨n1, a1⟩ := y1
            rw [h1] at hr
            simp only [rdOp2] at hr
            cases h2 : rdInt s a1 with
            | error e => rw [h2] at hr; cases hr
            | ok y2 =>
              obtain ⟨n2, a2⟩ := y2
              rw [h2] at hr
              simp only [rdOp3] at hr
              cases h3 : rdInt s a2 with
              | error e => rw [h3] at hr; cases hr
              | ok y3 =>
                obtain ⟨n3, a3⟩ := y3
                rw [h3] at hr
                simp only [rdOp4] at hr
                cases h4 : rdInt s a3 with
                | error e => rw [h4] at hr; cases hr
                | ok y4 =>
                  obtain ⟨n4, a4⟩ := y4
                  rw [h4] at hr
                  simp only [rdOp5, rd8] at hr
                  split at hr
                  · cases hr
                  · rename_i hp
                    have e0 := (rdInt_le h0).2.2
                    have e1 := (rdInt_le h1).2.2
                    have e2 := (rdInt_le h2).2.2
                    have e3 := (rdInt_le h3).2.2
                    have e4 := (rdInt_le h4).2.2
                    split at hp
                    · cases hp
                    · cases hp
                      cases hr
                      have e5 := leSum_lt s a4 8
                      refine ⟨⟨⟨?_, ?_⟩, ⟨?_, ?_⟩, ⟨?_, ?_⟩, ⟨?_, ?_⟩, e5⟩, ?_, ?_⟩ <;> simp only <;> omega
def Deed (base : Nat) (X : Ad) (wx : World) (r : Int × Hs) : Ending → World → Prop := fun e w' => e = .returned (.int .i64 r.1) ∧ ∃ X', Hm w' base X' r.2 ∧ Hst wx w' X X' ∧ X'.p = X.p
theorem Hm.foot_lt {w : World} {X : Ad} {H : Hs} (h : Hm w base X H) : ∀ k, X.foot k → k < w.heap.size := by
  intro k hk
  rcases hk with rfl | rfl | rfl | ⟨b, hb, hk⟩ | ⟨a, ha, hk⟩
  · exact h.ha.blk.lt
  · exact h.ha.lg.row.lt
  · exact h.sls.row.lt
  · obtain ⟨i, hi, rfl⟩ := List.getElem_of_mem hb
    have hi' : X.bs[i]? = some X.bs[i] := by simp [hi]
    obtain ⟨B, hB⟩ := get_both hi' (h.mks.nm.trans h.mks.nb.symm)
    have hk2 := h.mks.bk i _ B hi' hB
    rcases hk with rfl | hk
    · exact hk2.blk.lt
    · exact (hk2.row.lt k hk).2
  · obtain ⟨i, hi, e⟩ := List.getElem_of_mem ha
    have hi' : X.sl[i]? = some (some a) := by rw [← e]; simp [hi]
    obtain ⟨x, hx⟩ := get_both hi' (h.sls.nn.trans h.sls.ns.symm)
    cases x with
    | none =>
      have := (h.sls.non i).2 hx
      rw [hi'] at this; cases this
    | some x =>
      have k2 := (h.sls.sal i a x hi' hx).2.1
      rcases hk with rfl | rfl
      · exact k2.blk.lt
      · exact k2.row.lt
end Go.Proofs.YtpekfpfhonechaaGreat

namespace Go.Proofs.YtpekfpfhonechaaGreat
open Go.RowKit
set_option linter.unusedSimpArgs false
set_option linter.unusedVariables false
variable {base : Nat}

set_option maxRecDepth 100000 in
set_option maxHeartbeats 4000000 in
theorem request_hs (w : World) {X : Ad} {H : Hs} (h : Hm w base X H) (hB : base ≤ w.heap.size) (who : Int) (op : ByteArray) (hs : op.size ≤ maxLen) (r : Int × Hs) (o : Oo) (ho : ofOpR op = .ok o) (F : FuncId)
    (hF : vget deedsKV o.k = some (.func (.func F) #[] #[])) (eg : ∀ args w, (callFunc F args).run Tryz.prog w = .ok (.enter F args) w)
    (HD : ∀ wx, Hm wx base X H → base ≤ wx.heap.size → Calls Tryz.prog F #[.pointer (some ⟨X.p, 0, none⟩), .int .i64 who, o.val] wx (Deed base X wx r)) :
    Calls Tryz.prog 35 #[.pointer (some ⟨X.p, 0, none⟩), .int .i64 who, .string op] w fun e w' => e = .returned (.tuple #[.int .i64 r.1, .int .i64 (if r.1 = 0 ∧ o.k = 1 then r.2.now else 0)]) ∧ ∃ X', Hm w' base X' r.2 ∧ Hst w w' X X' ∧ X'.p = X.p := by
  have HOf : Hid _ := ofOp_calls op w hs
  rw [ho] at HOf
  have HH : Hid _ := h
  have HDe : Hid _ := fun wx => deeds_hs wx
  have HDD : Hid _ := HD
  obtain ⟨V, hV⟩ : ∃ V, (if r.1 = 0 ∧ o.k = 1 then r.2.now else 0) = V := ⟨_, rfl⟩
  rw [hV]
  have HV : Hid _ := hV
  have hz0 : ∀ w, (zeroValue 118).run Tryz.prog w = .ok .nilFunc w := fun _ => by kernel_rfl
  unfold Oo.val at HDD
  clear h hV HD ho
  obtain ⟨ok, og, oa, od, oi, opr⟩ := o
  have HF : Hid _ := hF
  simp only [opAns, Oo.val] at HOf HDD HF HV
  clear hF
  go_enter Tryz.func35, Tryz.ntmps35
  go_wp2_with fail
  refine Calls.mono HOf.out ?_
  rintro e w1 ⟨rfl, b1⟩
  obtain ⟨W1, hW1, X1, B1⟩ : ∃ W1, (w1.alloc (.cells #[.int .i64 ok, .int .i64 og, .int .i64 oa, .int .i64 od, .int .i64 oi, .float .f64 opr] 39)) = W1 ∧ Blk W1 w1.heap.size #[.int .i64 ok, .int .i64 og, .int .i64 oa, .int .i64 od, .int .i64 oi, .float .f64 opr] 39 ∧ Below w1.heap.size w1 W1 := ⟨_, rfl, blk_new _ _ _ _ rfl, by go_grown⟩
  have hz1 := b1.size
  have HB1 : Hid (Below w.heap.size w W1) := b1.trans (B1.mono hz1)
  have HX1 : Hid _ := X1
  have x0 : W1.cell? ⟨w1.heap.size, 0, none⟩ = some (.int .i64 ok) := X1.cell rfl
  clear X1 B1 b1
  go_upto_region 2 with fail
  have HSB : Hid (∀ wx wy, Below wx.heap.size wx wy → wx.cell? ⟨w1.heap.size, 0, none⟩ = some (.int .i64 ok) → wy.cell? ⟨w1.heap.size, 0, none⟩ = some (.int .i64 ok)) := fun wx wy hb hc => (hb.cell (p := ⟨w1.heap.size, 0, none⟩) (World.block_lt_of_cell? _ _ hc)).trans hc
  refine wp_region_held_drew (S := (fun wx => wx.cell? ⟨w1.heap.size, 0, none⟩ = some (.int .i64 ok))) (by kernel_rfl) x0 (fun hS => ?_)
  refine tkG (i := 1) (v := .pointer (some ⟨w1.heap.size, 0, none⟩)) rfl hS ?_
  refine tkH (i := 2) (v := .int .i64 ok) rfl (fun w3 hS => by have e0 := hS; go_simp) hS ?_
  refine wpAnyH_ready (rs := [0]) (by kernel_rfl) (by simp) ?_
  refine AllReadyH.cons rfl (fun K hK => ?_) AllReadyH.nil
  go_simp
  refine (HDe.out _).mono ?_
  rintro e w2 ⟨rfl, M2, b2⟩
  have M2' : MapAt w2 (some W1.heap.size) deedsKV := M2
  have hlk : (Instr.lookup 120 (.map (some W1.heap.size)) (.int .i64 ok) true).run Tryz.prog w2 = .ok (.tuple #[.func (.func F) #[] #[], .bool true]) w2 := by
    rw [run_look Tryz.underlying120 Tryz.underlying3 hz0 M2' ok]
    simp only [vgetZ, HF.out, Option.getD_some, Option.isSome_some]
  have b2' : Below W1.heap.size W1 w2 := ⟨b2.os, b2.tape, b2.output, b2.size, b2.block⟩
  have HB2 : Hid (Below w.heap.size w w2) := HB1.out.trans (b2'.mono HB1.out.size)
  have X2 : Blk w2 w1.heap.size #[.int .i64 ok, .int .i64 og, .int .i64 oa, .int .i64 od, .int .i64 oi, .float .f64 opr] 39 := Blk.below HX1.out b2'
  have y0 : w2.cell? ⟨w1.heap.size, 0, none⟩ = some (.int .i64 ok) := X2.cell rfl
  have y1 : w2.cell? ⟨w1.heap.size, 1, none⟩ = some (.int .i64 og) := X2.cell rfl
  have y2 : w2.cell? ⟨w1.heap.size, 2, none⟩ = some (.int .i64 oa) := X2.cell rfl
  have y3 : w2.cell? ⟨w1.heap.size, 3, none⟩ = some (.int .i64 od) := X2.cell rfl
  have y4 : w2.cell? ⟨w1.heap.size, 4, none⟩ = some (.int .i64 oi) := X2.cell rfl
  have y5 : w2.cell? ⟨w1.heap.size, 5, none⟩ = some (.float .f64 opr) := X2.cell rfl
  refine hK.out _ _ y0 (fun hS => ?_)
  clear hK
  refine wpAnyH_ready (rs := [3]) (by kernel_rfl) (by simp) ?_
  refine AllReadyH.cons rfl (fun K hK => ?_) AllReadyH.nil
  go_simp
  refine hK.out _ _ y0 (fun hS => ?_)
  clear hK
  refine tkG (i := 4) (v := .tuple #[.func (.func F) #[] #[], .bool true]) rfl hS ?_
  refine tkG (i := 5) (v := .func (.func F) #[] #[]) rfl hS ?_
  refine tkG (i := 6) (v := .bool true) rfl hS ?_
  refine tkG (i := 7) (v := .func (.func F) #[] #[]) rfl hS ?_
  refine tkG (i := 8) (v := .bool true) rfl hS ?_
  refine wpAnyH_done (by kernel_rfl) ?_ _
  have HCa : Hid _ := HDD.out w2 (HH.out.below HB2.out) (Nat.le_trans hB HB2.out.size)
  clear hlk M2 M2' b2 b2' X2 hz0 x0
  go_wp2_with fail
  go_at_fn F
  refine Calls.mono HCa.out ?_
  rintro e w3 ⟨rfl, X', hm', hst, hp⟩
  have hzn : w.heap.size ≤ w1.heap.size := hz1
  have q0 : w3.cell? ⟨w1.heap.size, 0, none⟩ = some (.int .i64 ok) := hst.chg.cell (a := ⟨w1.heap.size, 0, none⟩) y0 (fun hf => by have h1 := HH.out.foot_lt _ hf; simp only at h1; omega)
  have c4 : w3.cell? ⟨X.p, 4, none⟩ = some (.int .i64 r.2.now) := by rw [← hp]; exact hm'.ha.blk.cell rfl
  have HFin : Hid (∃ X', Hm w3 base X' r.2 ∧ Hst w w3 X X' ∧ X'.p = X.p) := ⟨X', hm', (Hst.of_below HB2.out).trans hst, hp⟩
  clear y0 y1 y2 y3 y4 y5 hm' hst hp HCa
  obtain ⟨rc, rH⟩ := r
  simp only at c4 HV HFin ⊢
  by_cases h0 : rc = 0
  · subst h0
    by_cases h1 : ok = 1
    · subst h1
      have hv := HV.out
      simp only [and_self, if_true] at hv
      go_wp2
      refine bodyPost_ret (by simp [results, Tryz.results35, go_sem]; rfl) rfl ?_
      exact ⟨by first | rfl | rw [hv], HFin.out⟩
    · have hv := HV.out
      simp only [h1, and_false, if_false] at hv
      have hd : (ok == 1) = false := by simpa using h1
      subst hv
      go_wp2
      refine bodyPost_ret (by simp [results, Tryz.results35, go_sem]; rfl) rfl ?_
      exact ⟨rfl, HFin.out⟩
  · have hv := HV.out
    simp only [h0, false_and, if_false] at hv
    have hd : (rc == 0) = false := by simpa using h0
    subst hv
    go_wp2
    refine bodyPost_ret (by simp [results, Tryz.results35, go_sem]; rfl) rfl ?_
    exact ⟨rfl, HFin.out⟩
end Go.Proofs.YtpekfpfhonechaaGreat

namespace Go.Proofs.YtpekfpfhonechaaGreat
open Go.RowKit
set_option linter.unusedSimpArgs false
set_option linter.unusedVariables false
variable {base : Nat}

set_option maxRecDepth 100000 in
set_option maxHeartbeats 1000000 in
theorem do_no (w : World) {X : Ad} {H : Hs} (h : Hm w base X H) (who stamp : Int) (op : ByteArray) (hn : ¬ refR H.l who stamp = 0) :
    Calls Tryz.prog 20 #[.pointer (some ⟨X.p, 0, none⟩), .int .i64 who, .int .i64 stamp, .string op] w fun e w' => e = .returned (.tuple #[.string ⟨#[]⟩, .int .i64 (refR H.l who stamp)]) ∧ Below w.heap.size w w' := by
  have HRf : Hid _ := refuse_hs w h.ha who stamp
  generalize refR H.l who stamp = e0 at *
  have hd : (e0 == 0) = false := by simpa using hn
  clear h hn
  go_enter Tryz.func20, Tryz.ntmps20
  go_wp2_with fail
  refine Calls.mono HRf.out ?_
  rintro e w1 ⟨rfl, b1⟩
  go_wp2
  refine bodyPost_ret (by simp [results, Tryz.results20, go_sem]; rfl) rfl ?_
  exact ⟨rfl, b1⟩
/-- What a request does. -/
def ReqP (base : Nat) (X : Ad) (wx : World) (r : Int × Hs) (V : Int) : Ending → World → Prop := fun e w' => e = .returned (.tuple #[.int .i64 r.1, .int .i64 V]) ∧ ∃ X', Hm w' base X' r.2 ∧ Hst wx w' X X' ∧ X'.p = X.p
set_option maxRecDepth 100000 in
set_option maxHeartbeats 1000000 in
theorem do_hs (w : World) {X : Ad} {H : Hs} (h : Hm w base X H) (hB : base ≤ w.heap.size) (who stamp : Int) (op : ByteArray) (hc : refR H.l who stamp = 0) (r : Int × Hs) (V : Int) (hr : 0 ≤ r.1 ∧ r.1 ≤ 1000) (hV : 0 ≤ V ∧ V ≤ 9007199254740992)
    (HRq : ∀ wx, Hm wx base X H → base ≤ wx.heap.size → Calls Tryz.prog 35 #[.pointer (some ⟨X.p, 0, none⟩), .int .i64 who, .string op] wx (ReqP base X wx r V)) :
    Calls Tryz.prog 20 #[.pointer (some ⟨X.p, 0, none⟩), .int .i64 who, .int .i64 stamp, .string op] w fun e w' => e = .returned (.tuple #[.string (layR r.1 V), .int .i64 0]) ∧ ∃ X', Hm w' base X' { r.2 with l := (Led.markR r.2.l who stamp (layR r.1 V)).2 } ∧ Hst w w' X X' ∧ X'.p = X.p := by
  have HRf : Hid _ := refuse_hs w h.ha who stamp
  rw [hc] at HRf
  have HQ : Hid _ := HRq
  have HH : Hid _ := h
  have HL : Hid _ := fun wx => laid_hs r.1 V wx hr.1 (by omega) hV.1 hV.2
  have hls := layR_size r.1 V
  obtain ⟨rep, hrep⟩ : ∃ rep, layR r.1 V = rep := ⟨_, rfl⟩
  rw [hrep] at HL hls ⊢
  clear h HRq hc hrep hV
  obtain ⟨rc, rH⟩ := r
  simp only at HL HQ ⊢
  go_enter Tryz.func20, Tryz.ntmps20
  go_wp2_with fail
  refine Calls.mono HRf.out ?_
  rintro e w1 ⟨rfl, b1⟩
  have HQ1 : Hid _ := HQ.out w1 (HH.out.below b1) (Nat.le_trans hB b1.size)
  go_wp2_with fail
  refine Calls.mono HQ1.out ?_
  rintro e w2 ⟨rfl, X', hm, hst, hp⟩
  go_wp2_with fail
  refine (HL.out _).mono ?_
  rintro e w3 ⟨rfl, b3⟩
  have hm3 := hm.below b3
  have c1 : w3.cell? ⟨X.p, 1, none⟩ = some (.pointer (some ⟨X'.pl, 0, none⟩)) := by rw [← hp]; exact hm3.ha.blk.cell rfl
  have HM : Hid _ := Led.mark_calls w3 hm3.ha.lg who stamp rep (by omega) _ rfl
  have Hm3 : Hid _ := hm3
  have H03 : Hid _ := ((Hst.of_below b1 : Hst w w1 X X).trans hst).trans (Hst.of_below b3)
  have Hp : Hid _ := hp
  clear hm hst hp hm3 b3 b1
  go_wp2_with fail
  refine Calls.mono HM.out ?_
  rintro e w4 ⟨rfl, L4, o4⟩
  have C4 : Chg (fun k => k = X'.bl) w3 w4 := Chg.of_off o4 rfl
  have HF := Hm3.out.acc (l' := (Led.markR rH.l who stamp rep).2) (Ha.wide Hm3.out.ha L4 C4 markR_len) C4 markR_len
  have HFF : Hid _ := HF
  clear HF L4 o4 C4
  go_wp2
  refine bodyPost_ret (by simp [results, Tryz.results20, go_sem]; rfl) rfl ?_
  exact ⟨rfl, X', HFF.out.1, H03.out.trans HFF.out.2, Hp.out⟩
end Go.Proofs.YtpekfpfhonechaaGreat
