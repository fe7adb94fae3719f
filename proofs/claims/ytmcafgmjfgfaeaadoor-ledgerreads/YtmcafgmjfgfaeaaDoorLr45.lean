/- ledger.Of on a ledger's own records. -/
import Derived.Test.YtmcafgmjfgfaeaaDoorLr25
import Derived.Test.YtmcafgmjfgfaeaaDoorLr26
import Derived.Test.YtmcafgmjfgfaeaaDoorLr17
import Derived.Test.YtmcafgmjfgfaeaaDoorLr28
import Derived.Deep.DeepCutAuto
import Derived.Deep.CutBlock
namespace Go.Proofs.YtmcafgmjfgfaeaaDoor
open Go.RowKit
set_option linter.unusedSimpArgs false
set_option linter.unusedVariables false

def setAll : Array Value → Nat → List Value → Array Value
  | cs, _, [] => cs
  | cs, o, v :: r => setAll (cs.setIfInBounds o v) (o + 1) r
theorem setAll_mid : ∀ (V A C D : List Value), V.length = C.length → setAll (A ++ (C ++ D)).toArray A.length V = (A ++ (V ++ D)).toArray
  | [], A, [], D, _ => rfl
  | v :: V, A, c :: C, D, h => by
    have e : (A ++ (c :: C ++ D)).toArray.setIfInBounds A.length v = ((A ++ [v]) ++ (C ++ D)).toArray := by
      rw [List.setIfInBounds_toArray, List.set_append_right _ _ (Nat.le_refl _), Nat.sub_self]
      simp
    show setAll ((A ++ (c :: C ++ D)).toArray.setIfInBounds A.length v) (A.length + 1) V = _
    rw [e]
    have h2 := setAll_mid V (A ++ [v]) C D (by simpa using h)
    rw [List.length_append, List.length_singleton] at h2
    rw [h2]
    simp
theorem blk_setCells : ∀ (vs : List Value) (o : Nat) (w : World) (b : Nat) (cs : Array Value) (t : TypeId), Blk w b cs t → Blk (w.setCells b o vs) b (setAll cs o vs) t
  | [], _, _, _, _, _, h => h
  | v :: r, o, w, b, cs, t, h => by
    rw [World.setCells]
    exact blk_setCells r (o + 1) _ b _ t (h.set o v)
theorem off_setCells : ∀ (vs : List Value) (o : Nat) (x w : World) (b : Nat), Off b x w → Off b x (w.setCells b o vs)
  | [], _, _, _, _, h => h
  | v :: r, o, x, w, b, h => by
    rw [World.setCells]
    exact off_setCells r (o + 1) x _ b (h.setCell (p := ⟨b, o, none⟩) rfl v)
theorem kC_all {l : List Kt} {i : Nat} (hi : i < l.length) (k : Kt) : setAll (kC l) (i * 12) k.cells = kC (l.set i k) := by
  have e1 : kL l = (l.take i).flatMap Kt.cells ++ ((l[i]).cells ++ (l.drop (i + 1)).flatMap Kt.cells) := by
    have := kL_upd l i l[i] hi
    rw [List.set_getElem_self] at this
    exact this
  have e2 : ((l.take i).flatMap Kt.cells).length = i * 12 := by
    have := kL_len (l.take i)
    unfold kL at this
    rw [this, List.length_take]; congr 1; omega
  unfold kC
  rw [e1, ← e2, setAll_mid _ _ _ _ (by rw [Kt.len, Kt.len]), kL_upd _ _ _ hi]
/-- The first k clients of a ledger, the others empty. -/
def ofTo (l : List Kt) (k : Nat) : List Kt := l.take k ++ List.replicate (l.length - k) Kt.zero
theorem ofTo_len (l : List Kt) {k : Nat} (h : k ≤ l.length) : (ofTo l k).length = l.length := by simp [ofTo]; omega
theorem ofTo_set {l : List Kt} {k : Nat} (h : k < l.length) : (ofTo l k).set k (kAt l k) = ofTo l (k + 1) := by
  unfold ofTo
  rw [List.set_append_right _ _ (by rw [List.length_take]; omega), List.length_take, show k - min k l.length = 0 by omega, show l.length - k = (l.length - (k + 1)) + 1 by omega, List.replicate_succ, List.set_cons_zero, List.take_succ_eq_append_getElem h, kAt_eq h, List.append_assoc]
  rfl
theorem ofTo_zero (l : List Kt) : ofTo l 0 = List.replicate l.length Kt.zero := by simp [ofTo]
theorem ofTo_all (l : List Kt) : ofTo l l.length = l := by simp [ofTo]
theorem readyH_midC {P : Program} {md : Region.Mode} {ops : Array Oper} {Q : Exit → Act → World → Prop} {S : World → Prop} {fuel : Nat} {listed : Array Bool} {a : Act} {w : World} (i : Nat) {o : Oper} (ho : ops[i]? = some o) {ty : TypeId} {x y : Operand} (hop : o.op = .store ty x y) (hd : o.dst = none) (hgd : o.guard = none)
    (b f : Nat) (cells : Array Value) (hx : a.eval x = .pointer (some ⟨b, f, none⟩)) (hy : a.eval y = .agg cells) (ht : w.there b f cells.size) (hi : (P.info? ty).map (·.size) = some cells.size) (h1 : cells.all (·.oneCell') = true)
    (hS : S (w.setCells b f cells.toList)) (h : S (w.setCells b f cells.toList) → wpAnyH P md ops Q S fuel (listed.setIfInBounds i true) a (w.setCells b f cells.toList)) : AllReadyH P md ops Q S fuel listed a w [i] := by
  obtain ⟨dst, op, type, pos, after, guard⟩ := o
  simp only at hop hd hgd
  subst hop hd hgd
  exact AllReadyH.cons ho (fun K hK => step_ifC rfl (wp_store_mid ty x y rfl b f cells hx hy ht hi h1 (hK.out _ _ hS h))) AllReadyH.nil
theorem infoK12 : (Tryd.prog.info? 67).map (·.size) = some 12 := by kernel_rfl
theorem own_none {g : Nat} {l : List Kt} (H : Inv g l) {i : Nat} (hi : i < l.length) : ∀ j, g ≤ j → j < 4 → (kAt l i).n (2 + j) = 0 ∧ (kAt l i).n (6 + j) = 0 := fun j h1 h2 => by
  have e := H.none i hi (2 + j) (by omega) (by omega)
  have hq := H.held i hi _ _ (partG j h2)
  exact ⟨e, by omega⟩
theorem own_sound {g : Nat} {l : List Kt} (H : Inv g l) {i : Nat} (hi : i < l.length) : soundB (kAt l i) = true := by
  have h0 := H.held i hi _ _ part0
  have h2 := H.held i hi _ _ (partG 0 (by omega))
  have h3 := H.held i hi _ _ (partG 1 (by omega))
  have h4 := H.held i hi _ _ (partG 2 (by omega))
  have h5 := H.held i hi _ _ (partG 3 (by omega))
  have hs := (H.stamp i hi).1
  have hr := H.reply i hi
  have hf := H.fresh i hi
  unfold soundB
  refine decide_eq_true ⟨⟨h2.2, h3.2, h4.2, h5.2⟩, h0.2, hr, ?_⟩
  by_cases hz : (kAt l i).n 10 = 0
  · exact Or.inr (by rw [hf hz]; first | rfl | simp | decide | kernel_rfl)
  · exact Or.inl (by omega)
set_option maxHeartbeats 8000000 in
set_option maxRecDepth 100000 in
theorem of_own (g : Nat) (l : List Kt) (H : Inv g l) (v : Value) (bs : Nat) (w : World) (hv : w.ownsRow bs 71 2 v l.length (rcCells (recs g l))) :
    Calls Tryd.prog 12 #[.int .i64 l.length, .int .i64 g, v] w fun e w' => ∃ p b, e = .returned (.tuple #[.pointer (some ⟨p, 0, none⟩), .int .i64 0]) ∧ Lg w' p b g l ∧ Below w.heap.size w w' ∧ w.heap.size ≤ p ∧ w.heap.size ≤ b := by
  have hlen := H.len
  have hpos := H.pos
  have hg1 := H.g1
  have hg4 := H.g4
  have HH : Hid _ := H
  have HNW : Hid _ := new_ok (l.length : Int) (g : Int) w (by omega) (by omega) (by omega) (by omega)
  obtain ⟨gr, cap, rfl, HRC⟩ : ∃ gr cap, v = .slice (some ⟨gr, 0, none⟩) l.length cap ∧ Hid (∀ i, i < l.length → w.cell? ⟨gr, i * 2, none⟩ = some (.string (keyB i)) ∧ w.cell? ⟨gr, i * 2 + 1, none⟩ = some (.string ⟨(valB (kAt l i) g).toArray⟩)) := by
    rcases hv.2 with ⟨_, h0⟩ | ⟨gr, cap, cur, e, _⟩
    · omega
    · subst e
      refine ⟨gr, cap, rfl, fun i hi => ?_⟩
      have hi' : i < (recs g l).length := by simp [recs]; exact hi
      obtain ⟨c0, c1⟩ := rcCells_at (recs g l) i hi'
      have e : (recs g l)[i] = recOf g i (kAt l i) := by simp [recs]
      rw [e] at c0 c1
      exact ⟨(hv.cellAt (i * 2) (by omega)).trans c0, (hv.cellAt (i * 2 + 1) (by omega)).trans c1⟩
  go_enter Tryd.func12, Tryd.ntmps12
  go_wp2_with fail
  refine Calls.mono HNW.out ?_
  rintro e w1 ⟨p, b, rfl, L1, b1, hp, hb⟩
  rw [Int.toNat_natCast, Int.toNat_natCast, ← ofTo_zero] at L1
  have hul := ofTo_len l (Nat.zero_le l.length)
  have P1 := L1.blk
  rw [hul] at P1
  have R1 := L1.row
  have hne := L1.ne
  have HP1 : Hid _ := P1
  have HR1 : Hid _ := R1
  have hdn : ((l.length : Int) != (l.length : Int)) = false := by simp
  have HB1 : Hid _ := b1
  clear L1 P1 R1 b1 HNW
  go_wp2_with fail
  have hsz := HB1.out.size
  go_loopw [29] (fun i wr => ∃ k : Nat, k ≤ l.length ∧ i = .int .i64 k ∧ Hid (Blk wr p #[.slice (some ⟨b, 0, none⟩) l.length l.length, .int .i64 g] 62 ∧ Blk wr b (kC (ofTo l k)) 67 ∧ Below w.heap.size w wr)) (fun i _ => l.length - (intOf i).toNat)
  case atStart => exact ⟨0, Nat.zero_le _, rfl, HP1.out, HR1.out, HB1.out⟩
  case round =>
    clear HP1 HR1
    obtain ⟨k, hk, rfl, HR⟩ := hrel
    by_cases hlt : k < l.length
    · have hd : decide ((k : Int) < (l.length : Int)) = true := by simp only [decide_eq_true_eq]; omega
      have hd' : (k : Int) < (l.length : Int) := by omega
      obtain ⟨wa, rfl⟩ : ∃ wa, wa = wr := ⟨wr, rfl⟩
      have hz := HR.out.2.2.size
      obtain ⟨q0, q1⟩ := HRC.out k hlt
      have r0 : wa.cell? ⟨gr, k * 2, none⟩ = some (.string (keyB k)) := (HR.out.2.2.cell (World.block_lt_of_cell? w _ q0)).trans q0
      have r1 : wa.cell? ⟨gr, k * 2 + 1, none⟩ = some (.string ⟨(valB (kAt l k) g).toArray⟩) := (HR.out.2.2.cell (World.block_lt_of_cell? w _ q1)).trans q1
      have hft := Inv.fits HH.out hlt
      obtain ⟨hkt1, hkt2⟩ := ktR_val hg4 hft (own_none HH.out hlt)
      have hvs : (⟨(valB (kAt l k) g).toArray⟩ : ByteArray).size ≤ maxLen := by
        have e1 : (⟨(valB (kAt l k) g).toArray⟩ : ByteArray).size = (valB (kAt l k) g).length := by show (valB (kAt l k) g).toArray.size = _; simp
        rw [e1, valB_nums, List.length_append, List.length_append]
        have e7 : (kAt l k).reply.data.toList.length = (kAt l k).reply.data.size := Array.length_toList
        have e2 := encs_len (nums (kAt l k) g)
        rw [nums_len] at e2
        have e3 := encs_len [((kAt l k).reply.size : Int)]
        simp only [encs, List.flatMap_cons, List.flatMap_nil, List.append_nil, Int.toNat_natCast, List.length_singleton] at e3
        have e2' : (encs (nums (kAt l k) g)).length ≤ 110 := by omega
        have e3' : (enc (kAt l k).reply.size).length ≤ 10 := by omega
        have e5 : (kAt l k).reply.data.size ≤ 256 := hft.rep
        clear e2 e3 e1 hft hkt1 hkt2
        unfold maxLen
        omega
      have HKO : Hid (∀ wx, Calls Tryd.prog 42 #[.string ⟨(valB (kAt l k) g).toArray⟩, .int .i64 g] wx fun e w' => e = .returned (.tuple #[.agg (kAt l k).cells.toArray, .bool true]) ∧ Below wx.heap.size wx w') := fun wx => by
        have := keptOf_calls ⟨(valB (kAt l k) g).toArray⟩ g hg4 wx hvs
        rw [hkt1, hkt2] at this
        exact this
      have HSO : Hid _ := fun wx => sound_calls (kAt l k) wx
      have hso := own_sound HH.out hlt
      rw [hso] at HSO
      have HKY2 : Hid (∀ wx, Calls Tryd.prog 37 #[.int .i64 k] wx fun e w' => e = .returned (.string (keyB k)) ∧ Below wx.heap.size wx w') := fun wx => (keyOf_calls k wx (by omega)).mono (fun e w2 h => ⟨h.1, by rw [h.2]; exact Below.refl _ _⟩)
      have HUS : Hid _ := ofTo_set hlt
      have HKA : Hid ((kAt l k).cells.toArray = #[.int .i64 ((kAt l k).n 0), .int .i64 ((kAt l k).n 1), .int .i64 ((kAt l k).n 2), .int .i64 ((kAt l k).n 3), .int .i64 ((kAt l k).n 4), .int .i64 ((kAt l k).n 5), .int .i64 ((kAt l k).n 6), .int .i64 ((kAt l k).n 7), .int .i64 ((kAt l k).n 8), .int .i64 ((kAt l k).n 9), .int .i64 ((kAt l k).n 10), .string (kAt l k).reply]) := rfl
      have HUL := ofTo_len l hk
      have HKC : Hid _ := kC_all (l := ofTo l k) (i := k) (by rw [HUL]; exact hlt) (kAt l k)
      have hsz2 : (kC (ofTo l k)).size = l.length * 12 := by rw [kC_size, HUL]
      generalize kAt l k = kk at *
      generalize keyB k = kyb at *
      generalize (⟨(valB kk g).toArray⟩ : ByteArray) = val at *
      rw [HKA.out] at HKO
      obtain ⟨rb, hrb⟩ : ∃ rb, wa.heap.size = rb := ⟨_, rfl⟩
      obtain ⟨W2, hW2, X2, B2⟩ : ∃ W2, wa.alloc (.cells #[.string kyb, .string val] 71) = W2 ∧ Blk W2 rb #[.string kyb, .string val] 71 ∧ Below wa.heap.size wa W2 := ⟨_, rfl, blk_new _ _ _ _ hrb.symm, by go_grown⟩
      have t1 : W2.cell? ⟨rb, 1, none⟩ = some (.string val) := X2.cell rfl
      have HX2 : Hid _ := X2
      have HBW2 : Hid _ := B2
      clear hvs hft hkt1 hkt2 hso q0 q1 X2 B2
      go_wp2_with fail
      refine Calls.mono (HKO.out _) ?_
      rintro e w3 ⟨rfl, b3⟩
      obtain ⟨kb, hkb⟩ : ∃ kb, w3.heap.size = kb := ⟨_, rfl⟩
      obtain ⟨W4, hW4, X4, B4⟩ : ∃ W4, w3.alloc (.cells #[.int .i64 (kk.n 0), .int .i64 (kk.n 1), .int .i64 (kk.n 2), .int .i64 (kk.n 3), .int .i64 (kk.n 4), .int .i64 (kk.n 5), .int .i64 (kk.n 6), .int .i64 (kk.n 7), .int .i64 (kk.n 8), .int .i64 (kk.n 9), .int .i64 (kk.n 10), .string kk.reply] 67) = W4 ∧ Blk W4 kb #[.int .i64 (kk.n 0), .int .i64 (kk.n 1), .int .i64 (kk.n 2), .int .i64 (kk.n 3), .int .i64 (kk.n 4), .int .i64 (kk.n 5), .int .i64 (kk.n 6), .int .i64 (kk.n 7), .int .i64 (kk.n 8), .int .i64 (kk.n 9), .int .i64 (kk.n 10), .string kk.reply] 67 ∧ Below w3.heap.size w3 W4 := ⟨_, rfl, blk_new _ _ _ _ hkb.symm, by go_grown⟩
      have XR4 : Blk W4 rb #[.string kyb, .string val] 71 := (Blk.below HX2.out b3).below B4
      have HKB : Hid (wa.heap.size ≤ kb) := by
        show _ ≤ _
        have h1 := Below.size HBW2.out
        have h2 := b3.size
        omega
      have HBa : Hid (Below wa.heap.size wa W4) := Below.trans HBW2.out ((b3.trans (B4.mono b3.size)).mono (Below.size HBW2.out))
      have HX4 : Hid _ := X4
      have HR4 : Hid _ := XR4
      have hkk : (kyb.toList != kyb.toList) = false := by simp
      clear b3 B4 X4 XR4 HX2 HBW2 t1 r0 r1
      go_upto_region 10 with fail
      clear hW2 hW4 hrb hkb
      go_cut [54] (fun bv wx => bv = .bool false ∧ Below W4.heap.size W4 wx)
      case first =>
        rename_i J9 K9 aJ aK
        refine wp_region_held_drew (S := (fun wx => Below W4.heap.size W4 wx)) (by kernel_rfl) ((Below.refl _ _).drew) (fun hS => ?_)
        refine wpAnyH_take (i := 0) (v := (.bool true)) rfl (by kernel_rfl) (by kernel_rfl) (by kernel_rfl) (fun _ _ _ h => h) (Or.inl ⟨by rfl, fun wx hS => by go_simp⟩) hS ?_
        refine wpAnyH_take (i := 1) (v := (.bool false)) rfl (by kernel_rfl) (by kernel_rfl) (by kernel_rfl) (fun _ _ _ h => h) (Or.inl ⟨by rfl, fun wx hS => by go_simp⟩) hS ?_
        refine wpAnyH_take (i := 2) (v := (.bool false)) rfl (by kernel_rfl) (by kernel_rfl) (by kernel_rfl) (fun _ _ _ h => h) (Or.inl ⟨by rfl, fun wx hS => by go_simp⟩) hS ?_
        refine wpAnyH_take (i := 3) (v := (.agg #[.int .i64 (kk.n 0), .int .i64 (kk.n 1), .int .i64 (kk.n 2), .int .i64 (kk.n 3), .int .i64 (kk.n 4), .int .i64 (kk.n 5), .int .i64 (kk.n 6), .int .i64 (kk.n 7), .int .i64 (kk.n 8), .int .i64 (kk.n 9), .int .i64 (kk.n 10), .string kk.reply])) rfl (by kernel_rfl) (by kernel_rfl) (by kernel_rfl) (fun _ _ _ h => h) (Or.inl ⟨by kernel_rfl, fun wx hS => by have t0 := (Blk.below HX4.out hS).cell (o := 0) rfl; have t1 := (Blk.below HX4.out hS).cell (o := 1) rfl; have t2 := (Blk.below HX4.out hS).cell (o := 2) rfl; have t3 := (Blk.below HX4.out hS).cell (o := 3) rfl; have t4 := (Blk.below HX4.out hS).cell (o := 4) rfl; have t5 := (Blk.below HX4.out hS).cell (o := 5) rfl; have t6 := (Blk.below HX4.out hS).cell (o := 6) rfl; have t7 := (Blk.below HX4.out hS).cell (o := 7) rfl; have t8 := (Blk.below HX4.out hS).cell (o := 8) rfl; have t9 := (Blk.below HX4.out hS).cell (o := 9) rfl; have t10 := (Blk.below HX4.out hS).cell (o := 10) rfl; have t11 := (Blk.below HX4.out hS).cell (o := 11) rfl; go_simp⟩) hS ?_
        refine wpAnyH_ready (rs := [4]) (by kernel_rfl) (by simp) ?_
        refine AllReadyH.cons rfl (fun K hK => ?_) AllReadyH.nil
        rw [if_pos (by kernel_rfl)]
        go_simp
        refine Calls.mono (HSO.out _) ?_
        rintro e4 q4 ⟨rfl, bq⟩
        refine hK.out _ _ (hS.trans (bq.mono hS.size)) (fun hS => ?_)
        clear hK
        refine wpAnyH_take (i := 5) (v := (.bool false)) rfl (by kernel_rfl) (by kernel_rfl) (by kernel_rfl) (fun _ _ _ h => h) (Or.inl ⟨by kernel_rfl, fun wx hS => by go_simp⟩) hS ?_
        refine wpAnyH_take (i := 6) (v := (.bool false)) rfl (by kernel_rfl) (by kernel_rfl) (by kernel_rfl) (fun _ _ _ h => h) (Or.inl ⟨by rfl, fun wx hS => by go_simp⟩) hS ?_
        refine wpAnyH_take (i := 7) (v := (.bool false)) rfl (by kernel_rfl) (by kernel_rfl) (by kernel_rfl) (fun _ _ _ h => h) (Or.inl ⟨by rfl, fun wx hS => by go_simp⟩) hS ?_
        refine wpAnyH_take (i := 8) (v := (.pointer (some ⟨rb, 0, none⟩))) rfl (by kernel_rfl) (by kernel_rfl) (by kernel_rfl) (fun _ _ _ h => h) (Or.inl ⟨by kernel_rfl, fun wx hS => by go_simp⟩) hS ?_
        refine wpAnyH_take (i := 9) (v := (.string kyb)) rfl (by kernel_rfl) (by kernel_rfl) (by kernel_rfl) (fun _ _ _ h => h) (Or.inl ⟨by kernel_rfl, fun wx hS => by have t0 := (Blk.below HR4.out hS).cell (o := 0) rfl; go_simp⟩) hS ?_
        refine wpAnyH_take (i := 10) (v := (.int .i64 k)) rfl (by kernel_rfl) (by kernel_rfl) (by kernel_rfl) (fun _ _ _ h => h) (Or.inl ⟨by kernel_rfl, fun wx hS => by go_simp⟩) hS ?_
        refine wpAnyH_ready (rs := [11]) (by kernel_rfl) (by simp) ?_
        refine AllReadyH.cons rfl (fun K hK => ?_) AllReadyH.nil
        rw [if_pos (by kernel_rfl)]
        go_simp
        refine Calls.mono (HKY2.out _) ?_
        rintro e11 q11 ⟨rfl, bq⟩
        refine hK.out _ _ (hS.trans (bq.mono hS.size)) (fun hS => ?_)
        clear hK
        refine wpAnyH_take (i := 12) (v := (.bool false)) rfl (by kernel_rfl) (by kernel_rfl) (by kernel_rfl) (fun _ _ _ h => h) (Or.inl ⟨by kernel_rfl, fun wx hS => by go_simp⟩) hS ?_
        refine wpAnyH_take (i := 13) (v := (.bool false)) rfl (by kernel_rfl) (by kernel_rfl) (by kernel_rfl) (fun _ _ _ h => h) (Or.inl ⟨by rfl, fun wx hS => by go_simp⟩) hS ?_
        refine wpAnyH_done (by kernel_rfl) ?_ _
        go_simp
        refine aK _ _ ?_
        go_meet
        exact ⟨rfl, hS⟩
      case rest =>
        obtain ⟨rfl, hcb⟩ := hcut
        have hbc : Below wa.heap.size wa wc := Below.trans HBa.out (hcb.mono (Below.size HBa.out))
        have XP : Blk wc p #[.slice (some ⟨b, 0, none⟩) l.length l.length, .int .i64 g] 62 := Blk.below HR.out.1 hbc
        have XB : Blk wc b (kC (ofTo l k)) 67 := Blk.below HR.out.2.1 hbc
        have XK : Blk wc kb #[.int .i64 (kk.n 0), .int .i64 (kk.n 1), .int .i64 (kk.n 2), .int .i64 (kk.n 3), .int .i64 (kk.n 4), .int .i64 (kk.n 5), .int .i64 (kk.n 6), .int .i64 (kk.n 7), .int .i64 (kk.n 8), .int .i64 (kk.n 9), .int .i64 (kk.n 10), .string kk.reply] 67 := Blk.below HX4.out hcb
        have hkbb : kb ≠ b := fun e => by
          have h1 := XK
          unfold Blk at h1
          have h2 : b < wa.heap.size := Blk.lt HR.out.2.1
          have h3 := HKB.out
          omega
        have HP0 : Hid (∀ wx, Off b wc wx → wx.cell? ⟨p, 0, none⟩ = some (.slice (some ⟨b, 0, none⟩) l.length l.length)) := fun wx hx => keepOl hx (XP.cell rfl) hne
        have HV0 : Hid (∀ wx, Off b wc wx → wx.cell? ⟨kb, 0, none⟩ = some (.int .i64 (kk.n 0))) := fun wx hx => keepOl hx (XK.cell rfl) hkbb
        have HV1 : Hid (∀ wx, Off b wc wx → wx.cell? ⟨kb, 1, none⟩ = some (.int .i64 (kk.n 1))) := fun wx hx => keepOl hx (XK.cell rfl) hkbb
        have HV2 : Hid (∀ wx, Off b wc wx → wx.cell? ⟨kb, 2, none⟩ = some (.int .i64 (kk.n 2))) := fun wx hx => keepOl hx (XK.cell rfl) hkbb
        have HV3 : Hid (∀ wx, Off b wc wx → wx.cell? ⟨kb, 3, none⟩ = some (.int .i64 (kk.n 3))) := fun wx hx => keepOl hx (XK.cell rfl) hkbb
        have HV4 : Hid (∀ wx, Off b wc wx → wx.cell? ⟨kb, 4, none⟩ = some (.int .i64 (kk.n 4))) := fun wx hx => keepOl hx (XK.cell rfl) hkbb
        have HV5 : Hid (∀ wx, Off b wc wx → wx.cell? ⟨kb, 5, none⟩ = some (.int .i64 (kk.n 5))) := fun wx hx => keepOl hx (XK.cell rfl) hkbb
        have HV6 : Hid (∀ wx, Off b wc wx → wx.cell? ⟨kb, 6, none⟩ = some (.int .i64 (kk.n 6))) := fun wx hx => keepOl hx (XK.cell rfl) hkbb
        have HV7 : Hid (∀ wx, Off b wc wx → wx.cell? ⟨kb, 7, none⟩ = some (.int .i64 (kk.n 7))) := fun wx hx => keepOl hx (XK.cell rfl) hkbb
        have HV8 : Hid (∀ wx, Off b wc wx → wx.cell? ⟨kb, 8, none⟩ = some (.int .i64 (kk.n 8))) := fun wx hx => keepOl hx (XK.cell rfl) hkbb
        have HV9 : Hid (∀ wx, Off b wc wx → wx.cell? ⟨kb, 9, none⟩ = some (.int .i64 (kk.n 9))) := fun wx hx => keepOl hx (XK.cell rfl) hkbb
        have HV10 : Hid (∀ wx, Off b wc wx → wx.cell? ⟨kb, 10, none⟩ = some (.int .i64 (kk.n 10))) := fun wx hx => keepOl hx (XK.cell rfl) hkbb
        have HV11 : Hid (∀ wx, Off b wc wx → wx.cell? ⟨kb, 11, none⟩ = some (.string kk.reply)) := fun wx hx => keepOl hx (XK.cell rfl) hkbb
        have HTH : Hid (wc.drew.there b (k * 12) 12) := fun j hj => ⟨by
          have : wc.drew.cell? ⟨b, k * 12 + j, none⟩ = (kC (ofTo l k))[k * 12 + j]? := by rw [cell_of_row wc.drew b _ _ _ (0, 0) (Blk.drew XB)]
          rw [this, Array.getElem?_eq_getElem (by rw [hsz2]; omega)]; rfl, (Blk.drew XB).frozen⟩
        have HFIN : Hid (Blk (wc.drew.setCells b (k * 12) kk.cells) p #[.slice (some ⟨b, 0, none⟩) l.length l.length, .int .i64 g] 62 ∧ Blk (wc.drew.setCells b (k * 12) kk.cells) b (kC (ofTo l (k + 1))) 67 ∧ Below w.heap.size w (wc.drew.setCells b (k * 12) kk.cells)) := by
          have o : Off b wc (wc.drew.setCells b (k * 12) kk.cells) := off_setCells _ _ _ _ _ (Off.drew (Off.refl _ _))
          have e := blk_setCells kk.cells (k * 12) wc.drew b _ _ (Blk.drew XB)
          rw [HKC.out, HUS.out] at e
          exact ⟨Blk.off XP o hne, e, o.below hb (Below.trans HR.out.2.2 (hbc.mono hz)) (by have := hbc.size; omega)⟩
        clear XP XB XK hcb hbc HX4 HR4 HBa HR HKC HUS
        go_wp2_with fail
        refine wp_region_held_drew (S := (fun wx => Off b wc wx)) (by kernel_rfl) (Off.drew (Off.refl _ _)) (fun hS => ?_)
        refine wpAnyH_take (i := 0) (v := (.pointer (some ⟨p, 0, none⟩))) rfl (by kernel_rfl) (by kernel_rfl) (by kernel_rfl) (fun _ _ _ h => h) (Or.inl ⟨by rfl, fun wx hS => by go_simp⟩) hS ?_
        refine wpAnyH_take (i := 1) (v := (.pointer (some ⟨p, 0, none⟩))) rfl (by kernel_rfl) (by kernel_rfl) (by kernel_rfl) (fun _ _ _ h => h) (Or.inl ⟨by rfl, fun wx hS => by go_simp⟩) hS ?_
        refine wpAnyH_take (i := 2) (v := (.pointer (some ⟨p, 0, none⟩))) rfl (by kernel_rfl) (by kernel_rfl) (by kernel_rfl) (fun _ _ _ h => h) (Or.inl ⟨by rfl, fun wx hS => by go_simp⟩) hS ?_
        refine wpAnyH_take (i := 3) (v := (.slice (some ⟨b, 0, none⟩) l.length l.length)) rfl (by kernel_rfl) (by kernel_rfl) (by kernel_rfl) (fun _ _ _ h => h) (Or.inl ⟨by rfl, fun wx hS => by have s0 := HP0.out wx hS; go_simp⟩) hS ?_
        refine wpAnyH_take (i := 4) (v := (.int .i64 k)) rfl (by kernel_rfl) (by kernel_rfl) (by kernel_rfl) (fun _ _ _ h => h) (Or.inl ⟨by rfl, fun wx hS => by go_simp⟩) hS ?_
        refine wpAnyH_take (i := 5) (v := (.agg #[.int .i64 (kk.n 0), .int .i64 (kk.n 1), .int .i64 (kk.n 2), .int .i64 (kk.n 3), .int .i64 (kk.n 4), .int .i64 (kk.n 5), .int .i64 (kk.n 6), .int .i64 (kk.n 7), .int .i64 (kk.n 8), .int .i64 (kk.n 9), .int .i64 (kk.n 10), .string kk.reply])) rfl (by kernel_rfl) (by kernel_rfl) (by kernel_rfl) (fun _ _ _ h => h) (Or.inl ⟨by rfl, fun wx hS => by have s0 := HV0.out wx hS; have s1 := HV1.out wx hS; have s2 := HV2.out wx hS; have s3 := HV3.out wx hS; have s4 := HV4.out wx hS; have s5 := HV5.out wx hS; have s6 := HV6.out wx hS; have s7 := HV7.out wx hS; have s8 := HV8.out wx hS; have s9 := HV9.out wx hS; have s10 := HV10.out wx hS; have s11 := HV11.out wx hS; go_simp⟩) hS ?_
        refine wpAnyH_take (i := 6) (v := (.pointer (some ⟨b, k * 12, none⟩))) rfl (by kernel_rfl) (by kernel_rfl) (by kernel_rfl) (fun _ _ _ h => h) (Or.inl ⟨by rfl, fun wx hS => by go_simp⟩) hS ?_
        refine wpAnyH_ready (rs := [7]) (by kernel_rfl) (by simp) ?_
        refine readyH_midC 7 rfl (ty := 67) (x := .tmp 61) (y := .tmp 60) rfl rfl rfl b (k * 12) #[.int .i64 (kk.n 0), .int .i64 (kk.n 1), .int .i64 (kk.n 2), .int .i64 (kk.n 3), .int .i64 (kk.n 4), .int .i64 (kk.n 5), .int .i64 (kk.n 6), .int .i64 (kk.n 7), .int .i64 (kk.n 8), .int .i64 (kk.n 9), .int .i64 (kk.n 10), .string kk.reply] (by kernel_rfl) (by kernel_rfl) HTH.out infoK12 (one12 kk) (off_setCells _ _ _ _ _ hS) (fun hS => ?_)
        refine wpAnyH_done (by kernel_rfl) ?_ _
        go_wp2_with fail
        exact ⟨⟨k + 1, by omega, by norm_cast, HFIN.out⟩, by simp [intOf]; omega⟩
    · have hd : decide ((k : Int) < (l.length : Int)) = false := by simp only [decide_eq_false_iff_not]; omega
      have hd' : ¬ (k : Int) < (l.length : Int) := by omega
      obtain rfl : k = l.length := by omega
      have hr := HR.out
      rw [ofTo_all] at hr
      have L2 : Lg wr p b g l := ⟨hr.1, hr.2.1, hne, HH.out⟩
      have HOV : Hid _ := over_no wr L2
      have HL2 : Hid _ := L2
      have HB2 : Hid _ := hr.2.2
      clear hr L2 HR
      go_wp2_with fail
      refine Calls.mono HOV.out ?_
      rintro e w9 ⟨rfl, b9⟩
      go_wp2
      go_ret2
      exact ⟨p, b, rfl, Lg.below HL2.out b9, Below.trans HB2.out (b9.mono (Below.size HB2.out)), hp, hb⟩
end Go.Proofs.YtmcafgmjfgfaeaaDoor
