/- A slice of records that comes in as an argument: opened. -/
import Derived.Test.YtmcafgmjfgfaeaaDoorLr27
import Derived.Test.YtmcafgmjfgfaeaaDoorLr19
import Derived.Test.YtmcafgmjfgfaeaaDoorLr48
import Derived.Test.YtmcafgmjfgfaeaaDoorLr41
import Derived.Test.YtmcafgmjfgfaeaaDoorLr20
import Derived.Test.YtmcafgmjfgfaeaaDoorLr44
import Derived.Deep.DeepCutAuto
import Derived.Deep.CutBlock
namespace Go.Proofs.YtmcafgmjfgfaeaaDoor
open Go.ChangeShapes Go.WideShapes Go.ChangeAt Go.RowKit Go.Deep
set_option linter.unusedVariables false
set_option linter.unusedSimpArgs false

def RcsC (w : World) (v : Value) (l : List Rc) : Prop := Rcs w v l ∧ ∃ a cap, v = .slice a l.length cap ∧ l.length ≤ cap ∧ cap ≤ 9223372036854775807
theorem RcsC.len {w : World} {v : Value} {l : List Rc} (h : RcsC w v l) : l.length ≤ 9223372036854775807 := by
  obtain ⟨_, _, _, _, h1, h2⟩ := h
  omega
section
variable {H : Type} {enc : TypeId × Value → H} {w : World} {base : Nat} {spare : Nat → Bool} {held : Bool}
theorem cellsStrO : Tryd.prog.cellsOf 9 = 1 := by kernel_rfl
theorem cellsRecord : Tryd.prog.cellsOf 71 = 2 := by kernel_rfl
set_option maxRecDepth 100000 in
theorem open_record {fuel : Nat} {cs : List Value} {x : DataW H × List MemPlace} (h : DataW.trod enc Tryd.prog w base spare held fuel 71 cs = some x) :
    ∃ m : Rc, cs = [.string m.key, .string m.dat] ∧ m.key.size ≤ maxLen ∧ m.dat.size ≤ maxLen := by
  obtain ⟨y0, y1, n, hx, hl, h0, h1⟩ := trod_struct2 Tryd.underlying71 h
  rw [cellsRecord] at hl
  obtain ⟨a, b, rfl⟩ : ∃ a b, cs = [a, b] := by
    match cs, hl with
    | [a, b], _ => exact ⟨a, b, rfl⟩
  simp only [cellsStrO, List.drop_zero, List.drop_succ_cons, List.take_succ_cons, List.take_zero] at h0 h1
  obtain ⟨s, e1, _, z1⟩ := DataW.trod_string Tryd.underlying9 h0
  obtain ⟨t, e2, _, z2⟩ := DataW.trod_string Tryd.underlying9 h1
  simp only [List.cons.injEq, and_true] at e1 e2
  exact ⟨⟨s, t⟩, by rw [e1, e2], z1, z2⟩
theorem open_rcsF {fuel : Nat} {v : Value} {x : DataW H × List MemPlace} (h : DataW.trod enc Tryd.prog w base spare held fuel 36 [v] = some x) :
    ∃ l : List Rc, RcsC w v l := by
  rcases open_slice Tryd.underlying36 h with ⟨hv, _⟩ | ⟨a, len, cap, m, n, D, Pl, hv, _, hlc, hcm, hm, hxe, hx⟩
  · simp only [List.cons.injEq, and_true] at hv
    exact ⟨[], Or.inl ⟨⟨_, _, hv⟩, rfl⟩, _, _, hv, by simp, by omega⟩
  · simp only [List.cons.injEq, and_true] at hv
    subst hv
    have hcm' : cap ≤ 9223372036854775807 := by unfold maxLen at hcm; omega
    have hlm : len ≤ m := by rw [hm]; split <;> omega
    rw [cellsRecord] at hx
    have hex : ∀ i, i < len → ∃ sg : Rc, w.cell? ((a.add (i * 2)).add 0) = some (.string sg.key) ∧ w.cell? ((a.add (i * 2)).add 1) = some (.string sg.dat) ∧ sg.key.size ≤ maxLen ∧ sg.dat.size ≤ maxLen := by
      intro i hi
      obtain ⟨cs', hc, ht⟩ := hx i (by omega)
      obtain ⟨_, _, hcc⟩ := World.cells?_some hc
      obtain ⟨sg, rfl, z1, z2⟩ := open_record ht
      exact ⟨sg, by simpa using hcc 0 (by decide), by simpa using hcc 1 (by decide), z1, z2⟩
    rcases Nat.eq_zero_or_pos len with h0 | h0
    · subst h0
      exact ⟨[], Or.inl ⟨⟨_, _, rfl⟩, rfl⟩, _, cap, rfl, by simp, hcm'⟩
    · obtain ⟨b, off, spot⟩ := a
      have hspot : spot = none := by
        obtain ⟨sg, h1, _⟩ := hex 0 h0
        simpa [Addr.add] using World.cell?_spot h1
      subst hspot
      have hch : ∃ f : Nat → Rc, ∀ i, i < len → w.cell? ⟨b, off + i * 2, none⟩ = some (.string (f i).key) ∧ w.cell? ⟨b, off + i * 2 + 1, none⟩ = some (.string (f i).dat) ∧ (f i).key.size ≤ maxLen ∧ (f i).dat.size ≤ maxLen := by
        have hex' : ∀ i, i < len → ∃ sg : Rc, w.cell? ⟨b, off + i * 2, none⟩ = some (.string sg.key) ∧ w.cell? ⟨b, off + i * 2 + 1, none⟩ = some (.string sg.dat) ∧ sg.key.size ≤ maxLen ∧ sg.dat.size ≤ maxLen := by
          intro i hi
          obtain ⟨sg, q1, q2, z⟩ := hex i hi
          rw [Addr.add_lit, Addr.add_lit] at q1 q2
          exact ⟨sg, q1, q2, z⟩
        refine ⟨fun i => if hi : i < len then Classical.choose (hex' i hi) else ⟨⟨#[]⟩, ⟨#[]⟩⟩, fun i hi => ?_⟩
        have hc := Classical.choose_spec (hex' i hi)
        simp only [hi, dite_true]
        exact hc
      obtain ⟨f, hf⟩ := hch
      refine ⟨(List.range len).map f, Or.inr ⟨b, off, cap, by simp, fun i hi => ?_⟩, some ⟨b, off, none⟩, cap, by simp, by simpa using hlc, hcm'⟩
      simp only [List.length_map, List.length_range] at hi
      simp only [List.getElem_map, List.getElem_range]
      exact hf i hi
theorem open_rcs {v : Value} {d : DataW H} {p : List MemPlace} (hv : v.cells = #[v]) (h : DataW.Trod enc Tryd.prog w base spare held 36 v d p) (hsz : (d.weights Tryd.prog 36).all (· ≤ reachBytes) = true) (hlt : ∀ x ∈ p, x.block < w.heap.size) :
    ∃ l : List Rc, RcsC w v l ∧ l.length ≤ 9223372036854775807 := by
  obtain ⟨fuel, hf⟩ := h
  rw [hv] at hf
  obtain ⟨l, hl⟩ := open_rcsF hf
  exact ⟨l, hl, hl.len⟩
end
end Go.Proofs.YtmcafgmjfgfaeaaDoor

namespace Go.Proofs.YtmcafgmjfgfaeaaDoor
open Go.RowKit
set_option linter.unusedSimpArgs false
set_option linter.unusedVariables false

theorem ofE_ok {c gi : Int} {L : List Rc} (h : ofE c gi L = 0) : (1 ≤ c ∧ c ≤ 16 ∧ 1 ≤ gi ∧ gi ≤ 4) ∧ (L.length : Int) = c ∧ allR gi.toNat 0 L = true := by
  unfold ofE at h
  split at h
  · cases h
  · next h1 =>
    split at h
    · cases h
    · next h2 =>
      split at h
      · cases h
      · next h3 => exact ⟨Classical.byContradiction h1, Classical.byContradiction h2, by simpa using h3⟩
set_option maxHeartbeats 8000000 in
set_option maxRecDepth 100000 in
theorem reads_calls (c gi : Int) (v : Value) (L : List Rc) (w : World) (hl : RcsC w v L) :
    Calls Tryd.prog 4 #[.int .i64 c, .int .i64 gi, v] w fun e w' => e = .returned (.bool true) ∧ Below w.heap.size w w' := by
  have hz := hl.len
  have HO : Hid _ := of_any c gi L v w hl.1 hz
  have HV : Hid (Rcs w v L) := hl.1
  obtain ⟨pv, cpv, hpv⟩ := hl.1.len
  by_cases hE : ofE c gi L = 0
  · obtain ⟨⟨n1, n2, n3, n4⟩, hlc, hab⟩ := ofE_ok hE
    obtain ⟨g, rfl⟩ := Int.eq_ofNat_of_zero_le (show 0 ≤ gi by omega)
    rw [Int.toNat_natCast] at HO hab
    have hrc := ofL_recs (show g ≤ 4 by omega) (allR_all hab)
    have HRC : Hid (recs g (ofL g L) = L ∧ L.length ≤ 16) := ⟨hrc, by omega⟩
    have HE : Hid _ := hE
    have HOR : Hid (∀ w1, Below w.heap.size w w1 → _) := fun w1 hb => of_ref c (g : Int) L v w1 (HV.out.below hb) hz
    obtain ⟨l, hll⟩ : ∃ l, ofL g L = l := ⟨_, rfl⟩
    rw [Int.toNat_natCast, hll] at HOR
    rw [hll] at HO HRC
    have hsim := docs_sim l
    obtain ⟨ml, hml⟩ : ∃ ml, l.map docK = ml := ⟨_, rfl⟩
    rw [hml] at HOR hsim
    have HSI : Hid _ := hsim
    clear n1 n2 n3 n4 hlc hab hrc hE hz hl hll hsim hml
    subst hpv
    go_enter Tryd.func4, Tryd.ntmps4
    go_wp2_with fail
    refine Calls.mono HO.out ?_
    rintro e w1 ⟨b1, ⟨hne, rfl⟩ | ⟨_, p, b, rfl, L1, hp, hb⟩⟩
    · exact absurd HE.out hne
    have HR : Hid _ := HOR.out w1 b1
    have HL1 : Hid (Lg w1 p b g l ∧ Below w.heap.size w w1) := ⟨L1, b1⟩
    clear HO HOR L1 b1 hp hb
    go_wp2_with fail
    refine Calls.mono HR.out ?_
    rintro e w2 ⟨b2, ⟨hne, _⟩ | ⟨_, q, cap, rfl, R2⟩⟩
    · exact absurd HE.out hne
    obtain ⟨W3, hW3, X3, B3⟩ : ∃ W3, (w2.alloc (.cells #[.int .i64 0, .slice none 0 0] 29)).setRow w2.heap.size (rlA g (.slice (some ⟨q, 0, none⟩) ml.length cap)) = W3 ∧ Blk W3 w2.heap.size (rlA g (.slice (some ⟨q, 0, none⟩) ml.length cap)) 29 ∧ Below w2.heap.size w2 W3 := by
      have A1 : Blk (w2.alloc (.cells #[.int .i64 0, .slice none 0 0] 29)) w2.heap.size (rlA 0 (.slice none 0 0)) 29 := blk_new _ _ _ _ rfl
      exact ⟨_, rfl, Blk.setRow A1 _, below_setRow ((Below.refl _ _).alloc (Nat.le_refl _) _) _ _ (Nat.le_refl _)⟩
    have X3n : Blk (w2.alloc (.cells #[.int .i64 0, .slice none 0 0] 29)) w2.heap.size (rlA 0 (.slice none 0 0)) 29 := blk_new _ _ _ _ rfl
    have k0 : W3.cell? ⟨w2.heap.size, 0, none⟩ = some (.int .i64 g) := X3.cell rfl
    have k1 : W3.cell? ⟨w2.heap.size, 1, none⟩ = some (.slice (some ⟨q, 0, none⟩) ml.length cap) := X3.cell rfl
    have L3 : Lg W3 p b g l := (HL1.out.1.below b2).below B3
    have HLK : Hid _ := like_ref W3 _ L3 (R2.below B3) HSI.out
    have HB3 : Hid (Below w.heap.size w W3) := HL1.out.2.trans ((b2.trans (B3.mono b2.size)).mono HL1.out.2.size)
    have HL3 : Hid _ := L3
    clear X3 B3 b2 R2 HR HL1 L3
    go_wp2_with ((with_reducible refine st_row (ty := 29) (cs' := rlA g (.slice (some ⟨q, 0, none⟩) ml.length cap)) X3n (rlA_info _ _) (rlA_same _ _ _ _) (rlA_one _ _ _ _) hW3 ?_ ?_ ?_); rfl; rfl)
    clear hW3 X3n
    refine Calls.mono HLK.out ?_
    rintro e w4 ⟨rfl, b4⟩
    have L4 := HL3.out.below b4
    have HB4 : Hid (Below w.heap.size w w4) := HB3.out.trans (b4.mono HB3.out.size)
    have HRc : Hid _ := records_calls w4 L4
    have HI : Hid (Inv g l) := L4.inv
    clear HLK HL3 b4 L4 k0 k1
    go_wp2_with fail
    refine Calls.mono HRc.out ?_
    rintro e w5 ⟨v5, rfl, O5, b5⟩
    have HB5 : Hid (Below w.heap.size w w5) := HB4.out.trans (b5.mono HB4.out.size)
    have R5 := rcs_recs HI.out O5
    rw [HRC.out.1] at R5
    have hl16 := HRC.out.2
    have HSm : Hid _ := sameRecords_ref v5 _ L L w5 R5 (HV.out.below HB5.out) (by omega) (by omega)
    rw [sameRc_self] at HSm
    clear O5 b5 R5 HRc hl16
    go_wp2_with fail
    refine Calls.mono HSm.out ?_
    rintro e w6 ⟨rfl, b6⟩
    have HB6 : Hid (Below w.heap.size w w6) := HB5.out.trans (b6.mono HB5.out.size)
    have HAw : Hid _ := awake_calls w6
    clear b6 HSm
    go_wp2_with fail
    refine Calls.mono HAw.out ?_
    rintro e w7 ⟨rfl, b7⟩
    have B7 : Below w.heap.size w w7 := HB6.out.trans (b7.mono HB6.out.size)
    go_wp2
    go_ret
    exact ⟨rfl, B7⟩
  · have HE : Hid _ := hE
    have HOR : Hid (∀ w1, Below w.heap.size w w1 → _) := fun w1 hb => of_ref c gi L v w1 (HV.out.below hb) hz
    have hb1 : (ofE c gi L == 0) = false := by simpa using hE
    have hb2 : (ofE c gi L != ofE c gi L) = false := by simp
    have hb3 : ¬ ofE c gi L = 0 := hE
    clear hz hl hE
    generalize ofE c gi L = E at *
    subst hpv
    go_enter Tryd.func4, Tryd.ntmps4
    go_wp2_with fail
    refine Calls.mono HO.out ?_
    rintro e w1 ⟨b1, ⟨_, rfl⟩ | ⟨h0, _⟩⟩
    rotate_left 1
    · exact absurd h0 HE.out
    have HR : Hid _ := HOR.out w1 b1
    have HB1 : Hid _ := b1
    clear HO HOR b1
    go_wp2_with fail
    refine Calls.mono HR.out ?_
    rintro e w2 ⟨b2, ⟨_, z, sp, n, cap, rfl⟩ | ⟨h0, _⟩⟩
    rotate_left 1
    · exact absurd h0 HE.out
    obtain ⟨W3, hW3, B3⟩ : ∃ W3, (w2.alloc (.cells #[.int .i64 0, .slice none 0 0] 29)).setRow w2.heap.size (rlA z (.slice sp n cap)) = W3 ∧ Below w2.heap.size w2 W3 := ⟨_, rfl, below_setRow ((Below.refl _ _).alloc (Nat.le_refl _) _) _ _ (Nat.le_refl _)⟩
    have X3n : Blk (w2.alloc (.cells #[.int .i64 0, .slice none 0 0] 29)) w2.heap.size (rlA 0 (.slice none 0 0)) 29 := blk_new _ _ _ _ rfl
    have HB3 : Hid (Below w.heap.size w W3) := HB1.out.trans ((b2.trans (B3.mono b2.size)).mono HB1.out.size)
    have HAw : Hid _ := awake_calls W3
    clear B3 b2 HR HB1
    go_wp2_with ((with_reducible refine st_row (ty := 29) (cs' := rlA z (.slice sp n cap)) X3n (rlA_info _ _) (rlA_same _ _ _ _) (rlA_one _ _ _ _) hW3 ?_ ?_ ?_); rfl; rfl)
    refine Calls.mono HAw.out ?_
    rintro e w7 ⟨rfl, b7⟩
    have B7 : Below w.heap.size w w7 := HB3.out.trans (b7.mono HB3.out.size)
    go_wp2
    go_ret
    exact ⟨rfl, B7⟩
end Go.Proofs.YtmcafgmjfgfaeaaDoor
