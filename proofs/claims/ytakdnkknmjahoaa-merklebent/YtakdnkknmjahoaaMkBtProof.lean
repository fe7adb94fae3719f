/- MerkleBent returns true for all records, keys and bends, and they read afterwards as before; no condition. -/
import Derived.Test.YtakdnkknmjahoaaMkX
import Derived.Test.YtakdnkknmjahoaaMkO
import Derived.OpenShut
namespace Go.Proofs.Ytakdnkknmjahoaa
open Go.ChangeShapes Go.WideShapes Go.ChangeAt Go.RowKit
set_option linter.unusedSimpArgs false
set_option linter.unusedVariables false
variable {p b x y : Nat} {T : List ByteArray} {S : List (Int × ByteArray)}

/-- A bend. -/
structure Bd where
  wh : Int
  ix : Int
  nu : Int
  tx : ByteArray
def Bd.cells (a : Bd) : List Value := [.int .i64 a.wh, .int .i64 a.ix, .int .i64 a.nu, .string a.tx]
def Bd.fit (a : Bd) : Prop := a.tx.size ≤ 140737488351232
abbrev Bds (w : World) (v : Value) (l : List Bd) : Prop := Elems 4 Bd.cells Bd.fit w v l
theorem cellsBend : Try.prog.cellsOf 46 = 4 := by kernel_rfl
theorem bytesBend : Try.prog.bytesOf 46 = 40 := by kernel_rfl
theorem list4b {α : Type} {l : List α} (h : l.length = 4) : ∃ a b c d, l = [a, b, c, d] := by
  match l, h with
  | [a, b, c, d], _ => exact ⟨a, b, c, d, rfl⟩
section
variable {H : Type} {enc : TypeId × Value → H} {w : World} {base : Nat} {spare : Nat → Bool} {held : Bool}
theorem open_bds {v : Value} {d : DataW H} {p : List MemPlace} (hv : v.cells = #[v]) (h : DataW.Trod enc Try.prog w base spare held 38 v d p) (hsz : (d.weights Try.prog 38).all (· ≤ reachBytes) = true) (hlt : ∀ x ∈ p, x.block < w.heap.size) :
    ∃ l : List Bd, Bds w v l ∧ l.length * 40 ≤ 140737488351232 := by
  haveI : Nonempty Bd := ⟨⟨0, 0, 0, .empty⟩⟩
  refine open_elems Bd.cells Bd.fit Try.underlying38 cellsBend (fun _ => rfl) (by decide) bytesBend ?_ hv h hsz hlt
  intro fuel cs x hx hw
  obtain ⟨xs, n, _, hxe, hl, hlen, hfl⟩ := DataW.trod_struct Try.underlying46 hx
  rw [cellsBend] at hl
  obtain ⟨k0, k1, k2, k3, rfl⟩ := list4b hl
  obtain ⟨y0, y1, y2, y3, hxs⟩ := list4b (l := xs) (by simpa using hlen)
  subst hxs
  have g0 := hfl 0 _ rfl
  have g1 := hfl 1 _ rfl
  have g2 := hfl 2 _ rfl
  have g3 := hfl 3 _ rfl
  simp only [cells_Int, cells_Str, List.drop_zero, List.drop_succ_cons, List.take_succ_cons, List.take_zero, List.getElem?_cons_zero, List.getElem?_cons_succ] at g0 g1 g2 g3
  obtain ⟨i0, e0, _, _⟩ := DataW.trod_int Try.underlying3 g0
  obtain ⟨i1, e1, _, _⟩ := DataW.trod_int Try.underlying3 g1
  obtain ⟨i2, e2, _, _⟩ := DataW.trod_int Try.underlying3 g2
  obtain ⟨s3, e3, d3, _⟩ := DataW.trod_string Try.underlying9 g3
  have q0 : k0 = .int .i64 i0 := by simpa [cells_Int] using e0
  have q1 : k1 = .int .i64 i1 := by simpa [cells_Int] using e1
  have q2 : k2 = .int .i64 i2 := by simpa [cells_Int] using e2
  have q3 : k3 = .string s3 := by simpa [cells_Str] using e3
  have hd : x.1 = .agg [y0.1, y1.1, y2.1, y3.1] := by simpa using congrArg Prod.fst hxe
  rw [hd] at hw
  have w3 := List.all_eq_true.1 hw s3.data.toList.length (by
    simp only [DataW.weights, Try.underlying46]
    refine DataW.weights_mem_each (j := 3) (t := 9) (d := y3.1) rfl rfl _ ?_
    rw [d3]; simp [DataW.weights])
  have z3 := of_decide_eq_true w3
  rw [← Lib.size_eq] at z3
  refine ⟨⟨i0, i1, i2, s3⟩, by rw [q0, q1, q2, q3]; rfl, Nat.le_trans z3 (by unfold reachBytes; decide)⟩
end

theorem Elems.off2M {α : Type} {sz : Nat} {R : α → List Value} {B : α → Prop} {w w' : World} {v : Value} {l : List α} (h : Elems sz R B w v l) (hb : Book w p b x y T S) (ho : Off2 x y w w') : Elems sz R B w' v l := by
  rcases h with h | ⟨k, off, cap, hv, hl, hlc, hc⟩
  · exact Or.inl h
  · exact Or.inr ⟨k, off, cap, hv, Nat.lt_of_lt_of_le hl ho.size, hlc, fun i hi => ⟨fun j u hu => keepCell2 hb ho ((hc i hi).1 j u hu), (hc i hi).2⟩⟩
theorem not_pb {w : World} {k g o a' n cp : Nat} {c : Int} {a : Option Addr} {s : ByteArray} (X : Blk w k #[.int .i64 c, .slice a n cp] 28) (h : w.cell? ⟨g, o, none⟩ = some (.string s)) : g ≠ k := by
  rintro rfl
  rw [cell_of_row w g o _ 28 (0, 0) X] at h
  match o with
  | 0 => simp at h
  | 1 => simp at h
  | o + 2 => simp at h
theorem keep_off {w w' : World} {k g o : Nat} {u : Value} (ho : Off k w w') (hg : g ≠ k) (h : w.cell? ⟨g, o, none⟩ = some u) : w'.cell? ⟨g, o, none⟩ = some u :=
  (ho.cell (p := ⟨g, o, none⟩) (World.block_lt_of_cell? w _ h) hg).trans h
theorem Lf.offS {w w' : World} {v : Value} {ls : List ByteArray} {k n cp : Nat} {c : Int} {a : Option Addr} (h : Lf w v ls) (X : Blk w k #[.int .i64 c, .slice a n cp] 28) (ho : Off k w w') : Lf w' v ls := by
  obtain ⟨a, cap, e, h1, h2, h3⟩ := h
  refine ⟨a, cap, e, h1, h2, fun i hi => ?_⟩
  obtain ⟨g, off, e2, h4⟩ := h3 i hi
  exact ⟨g, off, e2, keep_off ho (not_pb (a' := 0) X h4) h4⟩
theorem PR.offS {w w' : World} {v : Value} {L : List (Pt × Value)} {k n cp : Nat} {c : Int} {a : Option Addr} (h : PR w v L) (X : Blk w k #[.int .i64 c, .slice a n cp] 28) (ho : Off k w w') : PR w' v L := by
  refine ⟨?_, fun q hq => ⟨(h.2 q hq).1.offS X ho, (h.2 q hq).2⟩⟩
  rcases Nat.eq_zero_or_pos L.length with h0 | h0
  · obtain ⟨⟨a2, cap, e, _⟩, _⟩ := h
    refine ⟨a2, cap, e, fun j u hj => ?_⟩
    rw [List.length_eq_zero_iff.1 h0] at hj; simp [ptC] at hj
  · obtain ⟨g, off, cap, e, hc⟩ := h.at h0
    have hg : g ≠ k := not_pb (a' := 0) X (hc _ _ (ptC_get L 0 h0).2.1)
    exact ⟨_, cap, e, fun j u hj => ⟨g, off, rfl, keep_off ho hg (hc j u hj)⟩⟩
theorem Rcs.offS {w w' : World} {v : Value} {l : List Rc} {k n cp : Nat} {c : Int} {a : Option Addr} (h : Rcs w v l) (X : Blk w k #[.int .i64 c, .slice a n cp] 28) (ho : Off k w w') : Rcs w' v l := by
  rcases h with h | ⟨g, off, cap, hv, hc⟩
  · exact Or.inl h
  · refine Or.inr ⟨g, off, cap, hv, fun i hi => ?_⟩
    obtain ⟨h1, h2, h3⟩ := hc i hi
    exact ⟨keep_off ho (not_pb (a' := 0) X h1) h1, keep_off ho (not_pb (a' := 0) X h2) h2, h3⟩
theorem Bds.offS {w w' : World} {v : Value} {l : List Bd} {k n cp : Nat} {c : Int} {a : Option Addr} (h : Bds w v l) (X : Blk w k #[.int .i64 c, .slice a n cp] 28) (ho : Off k w w') : Bds w' v l := by
  rcases h with h | ⟨g, off, cap, hv, hl, hlc, hc⟩
  · exact Or.inl h
  · refine Or.inr ⟨g, off, cap, hv, Nat.lt_of_lt_of_le hl ho.size, hlc, fun i hi => ⟨fun j u hu => ?_, (hc i hi).2⟩⟩
    have hs := (hc i hi).1 3 (.string l[i].tx) rfl
    exact keep_off ho (not_pb (a' := 0) X hs) ((hc i hi).1 j u hu)
/-- All that the law's loops keep. -/
structure Kp5 (w0 : World) (x y p b : Nat) (l m : List Rc) (lv mv bv : Value) (bs : List Bd) (r : ByteArray) (T : List ByteArray) (w : World) : Prop where
  root : RootOf T l r
  book : Book w p b x y T []
  recs : Rcs w lv l
  more : Rcs w mv m
  bnds : Bds w bv bs
  bel : Below w0.heap.size w0 w
theorem Kp5.grew {w0 : World} {l m : List Rc} {lv mv bv : Value} {bs : List Bd} {r : ByteArray} {T T' : List ByteArray} {w w' : World} {c : Nat} (h : Kp5 w0 x y p b l m lv mv bv bs r T w) (G : Grew x y p b T [] w c T' w') (hx : w0.heap.size ≤ x) (hy : w0.heap.size ≤ y) : Kp5 w0 x y p b l m lv mv bv bs r T' w' :=
  ⟨h.root.ext G.ext, G.book, h.recs.off2 h.book G.off, h.more.off2 h.book G.off, h.bnds.off2M h.book G.off, G.off.below hx hy h.bel h.bel.size⟩
theorem Kp5.below {w0 : World} {l m : List Rc} {lv mv bv : Value} {bs : List Bd} {r : ByteArray} {T : List ByteArray} {w w' : World} (h : Kp5 w0 x y p b l m lv mv bv bs r T w) (k : Below w.heap.size w w') : Kp5 w0 x y p b l m lv mv bv bs r T w' :=
  ⟨h.root, h.book.below k, h.recs.below k, h.more.below k, h.bnds.below k, chain h.bel k⟩
theorem Kp5.off {w0 : World} {l m : List Rc} {lv mv bv : Value} {bs : List Bd} {r : ByteArray} {T : List ByteArray} {w w' : World} {k n cp : Nat} {c : Int} {a : Option Addr} (h : Kp5 w0 x y p b l m lv mv bv bs r T w) (X : Blk w k #[.int .i64 c, .slice a n cp] 28) (ho : Off k w w') (hk : w0.heap.size ≤ k) (h1 : k ≠ p) (h2 : k ≠ b) (h3 : k ≠ x) (h4 : k ≠ y) : Kp5 w0 x y p b l m lv mv bv bs r T w' :=
  ⟨h.root, h.book.grown (off_by ho) ⟨by simpa using h1, by simpa using h2, by simpa using h3, by simpa using h4⟩, h.recs.offS X ho, h.more.offS X ho, h.bnds.offS X ho, ho.below hk h.bel h.bel.size⟩
/-- What Verify answers of any proof at a root of records. -/
theorem verify_any {l : List Rc} {r key : ByteArray} {q : Pf} {w w' : World} {e : Ending} (hr : RootOf T l r) (r1 : riseR l = 0) (hT : T.length < 900000) (hB : Book w p b x y T []) (P : VerifyP x y p b T [] w q r key e w') :
    ∃ V B G T', e = .returned (.tuple #[.string V, .bool B, .int .i64 G]) ∧ (G = 0 → Truth l key V B) ∧ Grew x y p b T [] w 40 T' w' := by
  have hG : Below w.heap.size w w' → Grew x y p b T [] w 40 T w' := fun b5 => ((Grew.refl hB).below b5).le (by omega)
  cases hk : isK key
  · obtain ⟨rfl, b5⟩ := P.field hk
    exact ⟨_, _, _, T, rfl, fun h => by simp at h, hG b5⟩
  · cases hfs : (pfFits q && showsB q key)
    · obtain ⟨rfl, b5⟩ := P.bad hk hfs
      exact ⟨_, _, _, T, rfl, fun h => by simp at h, hG b5⟩
    · rw [Bool.and_eq_true] at hfs
      obtain ⟨T5, G5, hx⟩ := P.good hk hfs.1 hfs.2
      have l5 := G5.len
      rcases hx with ⟨_, rfl⟩ | ⟨hld, rfl⟩
      · exact ⟨_, _, _, T5, rfl, fun h => by simp at h, G5⟩
      · exact ⟨_, _, _, T5, rfl, fun _ => sound (by omega) (RootOf.ext G5.ext hr) r1 hfs.1 hfs.2 hld, G5⟩
/-- What Prove answers of any records. -/
theorem prove_any {l : List Rc} {key : ByteArray} {w w' : World} {e : Ending} (hB : Book w p b x y T []) (P : ProvesP x y p b T [] w l key e w') :
    ∃ (c : Int) (a : Option Addr) (cap : Nat) (M : List (Pt × Value)) (G : Int) (T' : List ByteArray), e = .returned (.tuple #[.agg #[.int .i64 c, .slice a M.length cap], .int .i64 G]) ∧ PR w' (.slice a M.length cap) M ∧ Sm 13 M ∧ Grew x y p b T [] w (3 * l.length) T' w' := by
  have hG : Below w.heap.size w w' → Grew x y p b T [] w (3 * l.length) T w' := fun b5 => ((Grew.refl hB).below b5).le (by omega)
  have h0 : PR w' (.slice none 0 0) [] := ⟨⟨none, 0, rfl, fun j u hj => by simp [ptC] at hj⟩, fun q hq => by cases hq⟩
  have h1 : Sm 13 [] := ⟨by simp, fun q hq => by cases hq⟩
  by_cases r1 : riseR l = 0
  · cases hk : isK key
    · obtain ⟨rfl, b5⟩ := P.field r1 hk
      exact ⟨_, none, 0, [], _, T, rfl, h0, h1, hG b5⟩
    · obtain ⟨rr, L, ls, T5, pv, cv, hlv, hsp, hpo, rfl, ho, hss, G5⟩ := P.good r1 hk
      obtain ⟨hn4, hzz⟩ := riseR_ok r1
      have hoks : ∀ q ∈ L, ptOk q.1 = true := fun q hq => by
        obtain ⟨i, hi⟩ := hpo.each q.1 (List.mem_map.2 ⟨q, hq, rfl⟩)
        exact (hi.ok hlv hn4 hzz).1
      refine ⟨_, pv, cv, L, _, T5, rfl, PR.own ho (fun q hq => ?_), ⟨?_, fun q hq => (ptOk_parts (hoks q hq)).2.2.2.1⟩, G5⟩
      · have ok := ptOk_parts (hoks q hq)
        exact ⟨lf_own (hss q hq), fun s hs => Nat.le_trans (ok.2.2.2.2 s hs) (by unfold maxLen; omega), Nat.le_trans ok.2.1 (by unfold maxLen; omega), Nat.le_trans ok.2.2.1 (by unfold maxLen; omega)⟩
      · have := hpo.two
        rw [List.length_map] at this
        omega
  · obtain ⟨rfl, b5⟩ := P.bad r1
    exact ⟨_, none, 0, [], _, T, rfl, h0, h1, hG b5⟩

set_option maxHeartbeats 8000000 in
set_option maxRecDepth 100000 in
theorem merkleBent_calls (v u : Value) (l m : List Rc) (key other : ByteArray) (bv : Value) (bs : List Bd) (w : World) (hl : RcsC w v l) (hm : RcsC w u m) (hb : Bds w bv bs) (hbl : bs.length * 40 ≤ 140737488351232) :
    Calls Try.prog 4 #[v, u, .string key, .string other, bv] w fun e w' => e = .returned (.bool true) ∧ Below w.heap.size w w' := by
  have hll := hl.len
  have hml := hm.len
  obtain ⟨la, lc, rfl, _, _⟩ := hl.2
  obtain ⟨ma, mc, rfl, _, _⟩ := hm.2
  obtain ⟨ba, bc, rfl, _⟩ := hb.any
  have HL : Hid _ := hl.1
  have HM : Hid _ := hm.1
  have HBD : Hid _ := hb
  have HN : Hid _ := newBook_calls w
  have HA : Hid _ := awake_calls
  clear hl hm hb
  go_enter Try.func4, Try.ntmps4
  go_wp2_with fail
  refine Calls.mono HN.out ?_
  rintro e w1 ⟨p, b, x, y, rfl, hB, b1, g1, g2, g3, g4⟩
  by_cases hl6 : l.length ≤ 60
  case neg =>
    have d1 : decide ((60 : Int) < (l.length : Int)) = true := decide_eq_true (by omega)
    go_wp2_with fail
    refine (HA.out _).mono ?_
    rintro e w9 ⟨rfl, b9⟩
    go_wp2
    go_ret
    exact ⟨rfl, chain b1 b9⟩
  have d1 : decide ((60 : Int) < (l.length : Int)) = false := decide_eq_false (by omega)
  by_cases hm6 : m.length ≤ 60
  case neg =>
    have d2 : decide ((60 : Int) < (m.length : Int)) = true := decide_eq_true (by omega)
    go_wp2_with fail
    refine (HA.out _).mono ?_
    rintro e w9 ⟨rfl, b9⟩
    go_wp2
    go_ret
    exact ⟨rfl, chain b1 b9⟩
  have d2 : decide ((60 : Int) < (m.length : Int)) = false := decide_eq_false (by omega)
  have HR : Hid _ := root_calls (.slice la l.length lc) l w1 (Rcs.below HL.out b1) (by omega) hB (by simp) (by simp)
  go_wp2_with fail
  refine Calls.mono HR.out ?_
  rintro e w4 P4
  by_cases r1 : riseR l = 0
  case neg =>
    obtain ⟨rfl, b4⟩ := P4.bad r1
    have bb4 := chain b1 b4
    have C1 : Hid _ := rise_ref (.slice la l.length lc) l w4 (Rcs.below HL.out bb4) (by omega)
    obtain ⟨E, hE⟩ : ∃ E, riseR l = E := ⟨_, rfl⟩
    have hE0 : E ≠ 0 := by rw [← hE]; exact r1
    have d0 : decide (E = 0) = false := decide_eq_false hE0
    have d0' : (E == 0) = false := d0
    rw [hE] at C1
    simp only [hE]
    clear P4 HL HR r1 hE
    go_wp2_with fail
    refine Calls.mono C1.out ?_
    rintro e w7 ⟨rfl, b7⟩
    go_wp2_with fail
    refine (HA.out _).mono ?_
    rintro e w9 ⟨rfl, b9⟩
    go_wp2
    go_ret
    exact ⟨rfl, chain (chain bb4 b7) b9⟩
  obtain ⟨r, T4, rfl, R4, G4⟩ := P4.good r1
  have l4 := G4.len
  simp only [List.length_nil, Nat.zero_add] at l4
  have b4 : Below w.heap.size w w4 := G4.off.below g3 g4 b1 b1.size
  have K4 : Hid (Kp5 w x y p b l m (.slice la l.length lc) (.slice ma m.length mc) (.slice ba bs.length bc) bs r T4 w4) :=
    ⟨R4, G4.book, Rcs.off2 (Rcs.below HL.out b1) hB G4.off, Rcs.off2 (Rcs.below HM.out b1) hB G4.off, Elems.off2M (Elems.below HBD.out b1) hB G4.off, b4⟩
  have HRI : Hid _ := rising_of r1
  have HR1 : Hid _ := r1
  clear P4 G4 R4 HL HM HBD HR HN hB r1
  go_wp2_with fail
  go_loopw [14] (fun tv wr => ∃ (t : Nat) (T : List ByteArray), t ≤ 2 ∧ tv = .int .i64 t ∧ T.length ≤ 200 + t * 700 ∧ Hid (Kp5 w x y p b l m (.slice la l.length lc) (.slice ma m.length mc) (.slice ba bs.length bc) bs r T wr)) (fun tv _ => 2 - (intOf tv).toNat)
  case atStart => exact ⟨0, T4, by omega, rfl, by omega, K4⟩
  case round =>
    clear K4 l4 b4
    obtain ⟨t, T1, ht, rfl, hT1, K1⟩ := hrel
    by_cases ht2 : t < 2
    case neg =>
      have dt : decide ((t : Int) < 2) = false := decide_eq_false (by omega)
      have bb := K1.out.bel
      go_wp2_with fail
      refine (HA.out _).mono ?_
      rintro e w9 ⟨rfl, b9⟩
      go_wp2
      go_ret
      exact ⟨rfl, chain bb b9⟩
    have dt : decide ((t : Int) < 2) = true := decide_eq_true (by omega)
    go_upto_if 52 with fail
    go_cut [15] (fun fv wx => ∃ (fl : List Rc) (fa : Option Addr) (fc : Nat), fv = .slice fa fl.length fc ∧ Hid (Rcs wr fv fl) ∧ fl.length ≤ 60 ∧ wx = wr)
    case first =>
      by_cases h1 : t = 1
      · have d3 : decide ((t : Int) = 1) = true := decide_eq_true (by omega)
        have d3' : ((t : Int) == 1) = true := d3
        clear h1
        go_wp2
        go_meet
        exact ⟨m, ma, mc, rfl, K1.out.more, hm6, rfl⟩
      · have d3 : decide ((t : Int) = 1) = false := decide_eq_false (by omega)
        have d3' : ((t : Int) == 1) = false := d3
        go_wp2
        go_meet
        exact ⟨l, la, lc, rfl, K1.out.recs, hl6, rfl⟩
    case rest =>
      obtain ⟨fl, fa, fc, rfl, HFR, hf6, rfl⟩ := hcut
      rename World => wr
      have HPV : Hid _ := proveRecs_calls (.slice fa fl.length fc) fl other wr HFR.out (by omega) K1.out.book (by simp) (by omega)
      go_wp2_with fail
      refine Calls.mono HPV.out ?_
      rintro e w5 P5
      obtain ⟨c0, a0, cap0, M0, G0, T5, rfl, R5, S5, G5⟩ := prove_any K1.out.book P5
      have lG5 := G5.len
      have K5 : Hid _ := Kp5.grew K1.out G5 g3 g4
      have lts := K5.out.book.lts
      have bel5 := K5.out.bel.size
      obtain ⟨W6, hW6, X6, B6, Z6⟩ : ∃ W6, w5.alloc (.cells #[.int .i64 c0, .slice a0 M0.length cap0] 28) = W6 ∧ Blk W6 w5.heap.size #[.int .i64 c0, .slice a0 M0.length cap0] 28 ∧ Below w5.heap.size w5 W6 ∧ W6.heap.size = w5.heap.size + 1 :=
        ⟨_, rfl, blk_new _ _ _ _ rfl, by go_grown, by simp⟩
      have K6 : Hid _ := Kp5.below K5.out B6
      have HR6 : Hid _ := R5.below B6
      have HS6 : Hid _ := S5
      clear P5 R5 S5 G5 HPV K5 K1 HFR
      by_cases hG : G0 = 0
      case neg =>
        have dg : decide (G0 = 0) = false := decide_eq_false hG
        have dg' : (G0 == 0) = false := dg
        go_wp2
        refine ⟨⟨t + 1, T5, by omega, by norm_cast, by omega, K6⟩, ?_⟩
        simp [intOf]; omega
      subst hG
      obtain ⟨pb, hpb⟩ : ∃ pb, w5.heap.size = pb := ⟨_, rfl⟩
      rw [hpb] at X6 bel5 lts Z6
      go_wp2_with fail
      go_loopw [18] (fun iv wz => ∃ (i : Nat) (T : List ByteArray) (cnt : Int) (a : Option Addr) (cap : Nat) (M : List (Pt × Value)), i ≤ 11 ∧ i ≤ bs.length + 1 ∧ iv = .int .i64 i ∧ Blk wz pb #[.int .i64 cnt, .slice a M.length cap] 28 ∧ Hid (PR wz (.slice a M.length cap) M) ∧ Hid (Sm (13 + i) M) ∧ T.length ≤ T5.length + 40 * i ∧ Hid (Kp5 w x y p b l m (.slice la l.length lc) (.slice ma m.length mc) (.slice ba bs.length bc) bs r T wz)) (fun iv _ => 11 - (intOf iv).toNat)
      case atStart => exact ⟨0, T5, c0, a0, cap0, M0, by omega, by omega, rfl, X6, HR6, HS6, by omega, K6⟩
      case round =>
        clear K6 HR6 HS6 X6
        obtain ⟨w7, hw7⟩ : ∃ w7, w7 = wr := ⟨_, rfl⟩
        subst hw7
        obtain ⟨i, T7, cnt, a, cap, M, hi1, hi2, rfl, X7, HR7, HS7, hT7, K7⟩ := hrel
        by_cases hc1 : i ≤ bs.length
        case neg =>
          have dc : decide ((i : Int) ≤ (bs.length : Int)) = false := decide_eq_false (by omega)
          go_wp2
          refine ⟨⟨t + 1, T7, by omega, by norm_cast, by omega, K7⟩, ?_⟩
          simp [intOf]; omega
        have dc : decide ((i : Int) ≤ (bs.length : Int)) = true := decide_eq_true (by omega)
        by_cases hc2 : i ≤ 10
        case neg =>
          have dc2 : decide ((i : Int) ≤ 10) = false := decide_eq_false (by omega)
          go_wp2
          refine ⟨⟨t + 1, T7, by omega, by norm_cast, by omega, K7⟩, ?_⟩
          simp [intOf]; omega
        have dc2 : decide ((i : Int) ≤ 10) = true := decide_eq_true (by omega)
        have e0 : w7.cell? ⟨pb, 0, none⟩ = some (.int .i64 cnt) := X7.cell rfl
        have e1 : w7.cell? ⟨pb, 1, none⟩ = some (.slice a M.length cap) := X7.cell rfl
        have HV : Hid _ := verify_calls ⟨cnt, M.map Prod.fst⟩ (.slice a M.length cap) r key w7 (PR.ptsC HR7.out) K7.out.book (by simp) (by omega)
        go_wp2_with fail
        refine Calls.mono HV.out ?_
        rintro e w8 P8
        obtain ⟨V, B, G, T8, rfl, htr, G8⟩ := verify_any K7.out.root HR1.out (by omega) K7.out.book P8
        have l8 := G8.len
        have K8 : Hid _ := Kp5.grew K7.out G8 g3 g4
        have X8 := X7.off2 G8.off (by omega) (by omega)
        have HR8 : Hid _ := PR.off2 HR7.out K7.out.book G8.off
        have HTR : Hid _ := htr
        clear P8 G8 HV K7 X7 HR7 htr e0 e1
        go_upto_region 19 with fail
        go_cut [91] (fun s wx => s = .bool false ∧ wx = w8)
        case first =>
          by_cases hG : G = 0
          · subst hG
            have HTT : Hid _ := truth_calls (.slice la l.length lc) l key V B w8 K8.out.recs (by omega) HRI.out (HTR.out rfl)
            go_wp2_with fail
            refine Calls.mono HTT.out ?_
            rintro e w8 ⟨rfl, rfl⟩
            go_wp2
            go_meet
            exact ⟨rfl, rfl⟩
          · have dg : decide (G = 0) = false := decide_eq_false hG
            have dg' : (G == 0) = false := dg
            go_wp2
            go_meet
            exact ⟨rfl, rfl⟩
        case rest =>
          obtain ⟨rfl, rfl⟩ := hcut
          rename World => w8
          by_cases hlt : i < bs.length
          case neg =>
            have dl : decide ((i : Int) < (bs.length : Int)) = false := decide_eq_false (by omega)
            go_wp2
            refine ⟨⟨i + 1, T8, cnt, a, cap, M, by omega, by omega, by norm_cast, X8, HR8, ⟨Nat.le_trans HS7.out.1 (by omega), fun q hq => Nat.le_trans (HS7.out.2 q hq) (by omega)⟩, by omega, K8⟩, ?_⟩
            simp [intOf]; omega
          have dl : decide ((i : Int) < (bs.length : Int)) = true := decide_eq_true (by omega)
          have dlz : (i : Int) < (bs.length : Int) := by omega
          obtain ⟨gb, ofb, hba, hbc⟩ : ∃ gb ofb, ba = some ⟨gb, ofb, none⟩ ∧ (∀ j u, (Bd.cells bs[i])[j]? = some u → w8.cell? ⟨gb, ofb + i * 4 + j, none⟩ = some u) ∧ Bd.fit bs[i] := by
            obtain ⟨a', c', e', hx⟩ := Elems.any K8.out.bnds
            simp only [Value.slice.injEq, true_and] at e'
            obtain ⟨rfl, rfl⟩ := e'
            obtain ⟨g, off, e1, _, _, h1, h2⟩ := hx i hlt
            exact ⟨g, off, e1, h1, h2⟩
          subst hba
          have n0 : w8.cell? ⟨gb, ofb + i * 4, none⟩ = some (.int .i64 bs[i].wh) := hbc.1 0 _ rfl
          have n1 : w8.cell? ⟨gb, ofb + i * 4 + 1, none⟩ = some (.int .i64 bs[i].ix) := hbc.1 1 _ rfl
          have n2 : w8.cell? ⟨gb, ofb + i * 4 + 2, none⟩ = some (.int .i64 bs[i].nu) := hbc.1 2 _ rfl
          have n3 : w8.cell? ⟨gb, ofb + i * 4 + 3, none⟩ = some (.string bs[i].tx) := hbc.1 3 _ rfl
          have hfit : bs[i].tx.size ≤ maxLen := Nat.le_trans hbc.2 (by unfold maxLen; omega)
          generalize bs[i] = bd at *
          have e0 : w8.cell? ⟨pb, 0, none⟩ = some (.int .i64 cnt) := X8.cell rfl
          have e1 : w8.cell? ⟨pb, 1, none⟩ = some (.slice a M.length cap) := X8.cell rfl
          have HB : Hid _ := bent_calls cnt (.slice a M.length cap) M (13 + i) bd.wh bd.ix bd.nu bd.tx w8.drew (PR.below HR8.out (Below.refl _ _).drew) HS7.out (by omega) hfit
          clear hbc hfit HTR
          go_wp2_with fail
          refine wp_region_any (by kernel_rfl) ?_
          change wpAny _ _ _ _ _ _ _ (World.drew _)
          refine wpAny_take (i := 1) (v := (.slice (some ⟨gb, ofb, none⟩) bs.length bc)) rfl (by kernel_rfl) (by kernel_rfl) (by kernel_rfl) (fun _ _ _ h => h) (Or.inl ⟨by rfl, fun w => by go_simp⟩) ?_
          refine wpAny_take (i := 2) (v := (.int .i64 i)) rfl (by kernel_rfl) (by kernel_rfl) (by kernel_rfl) (fun _ _ _ h => h) (Or.inl ⟨by rfl, fun w => by go_simp⟩) ?_
          refine wpAny_take (i := 3) (v := (.pointer (some ⟨gb, ofb + i * 4, none⟩))) rfl (by kernel_rfl) (by kernel_rfl) (by kernel_rfl) (fun _ _ _ h => h) (Or.inl ⟨by rfl, fun w => by go_simp⟩) ?_
          refine wpAny_ready (rs := [0, 4]) (by kernel_rfl) (by simp) ?_
          refine AllReady.cons rfl (fun K hK => ?_) (AllReady.cons rfl (fun K hK => ?_) AllReady.nil)
          · go_simp
            refine hK _ _ ?_
            clear hK
            refine wpAny_ready (rs := [4]) (by kernel_rfl) (by simp) ?_
            refine AllReady.cons rfl (fun K hK => ?_) AllReady.nil
            go_simp
            refine hK _ _ ?_
            clear hK
            refine wpAny_ready (rs := [5]) (by kernel_rfl) (by simp) ?_
            refine AllReady.cons rfl (fun K hK => ?_) AllReady.nil
            go_simp
            refine Calls.mono HB.out ?_
            rintro e w9 ⟨c9, a9, cap9, M9, rfl, R9, S9, b9⟩
            have b9' : Below w8.heap.size w8 w9 := (Below.refl _ _).drew.trans b9
            have X9 := X8.below b9'
            have f90 : w9.frozen? ⟨pb, 0, none⟩ = false := X9.frozen
            have q90 : w9.cell? ⟨pb, 0, none⟩ = some (.int .i64 cnt) := X9.cell rfl
            obtain ⟨V1, hV1, Y1, o1⟩ : ∃ V1, w9.setCell ⟨pb, 0, none⟩ (.int .i64 c9) = V1 ∧ Blk V1 pb #[.int .i64 c9, .slice a M.length cap] 28 ∧ Off pb w9 V1 := ⟨_, rfl, X9.set 0 _, Off.setCell (Off.refl _ _) (p := ⟨pb, 0, none⟩) rfl _⟩
            have f91 : V1.frozen? ⟨pb, 1, none⟩ = false := Y1.frozen
            have q91 : V1.cell? ⟨pb, 1, none⟩ = some (.slice a M.length cap) := Y1.cell rfl
            obtain ⟨V2, hV2, Y2, o2⟩ : ∃ V2, V1.setCell ⟨pb, 1, none⟩ (.slice a9 M9.length cap9) = V2 ∧ Blk V2 pb #[.int .i64 c9, .slice a9 M9.length cap9] 28 ∧ Off pb V1 V2 := ⟨_, rfl, Y1.set 1 _, Off.setCell (Off.refl _ _) (p := ⟨pb, 1, none⟩) rfl _⟩
            have R10 : Hid (PR V2 (.slice a9 M9.length cap9) M9) := PR.offS R9 X9 (o1.trans o2)
            have S10 : Hid _ := S9
            have K10 : Hid _ := Kp5.off (Kp5.below K8.out b9') X9 (o1.trans o2) (by omega) (by omega) (by omega) (by omega) (by omega)
            clear R9 S9
            refine hK _ _ ?_
            clear hK
            refine wpAny_ready (rs := [6]) (by kernel_rfl) (by simp) ?_
            refine AllReady.cons rfl (fun K hK => ?_) AllReady.nil
            go_simp
            refine hK _ _ ?_
            clear hK
            refine wpAny_done (by kernel_rfl) ?_ _
            go_wp2
            refine ⟨⟨i + 1, T8, c9, a9, cap9, M9, by omega, by omega, by norm_cast, Y2, R10, S10, by omega, K10⟩, ?_⟩
            simp [intOf]; omega
          · go_simp
            refine hK _ _ ?_
            clear hK
            refine wpAny_ready (rs := [0]) (by kernel_rfl) (by simp) ?_
            refine AllReady.cons rfl (fun K hK => ?_) AllReady.nil
            go_simp
            refine hK _ _ ?_
            clear hK
            refine wpAny_ready (rs := [5]) (by kernel_rfl) (by simp) ?_
            refine AllReady.cons rfl (fun K hK => ?_) AllReady.nil
            go_simp
            refine Calls.mono HB.out ?_
            rintro e w9 ⟨c9, a9, cap9, M9, rfl, R9, S9, b9⟩
            have b9' : Below w8.heap.size w8 w9 := (Below.refl _ _).drew.trans b9
            have X9 := X8.below b9'
            have f90 : w9.frozen? ⟨pb, 0, none⟩ = false := X9.frozen
            have q90 : w9.cell? ⟨pb, 0, none⟩ = some (.int .i64 cnt) := X9.cell rfl
            obtain ⟨V1, hV1, Y1, o1⟩ : ∃ V1, w9.setCell ⟨pb, 0, none⟩ (.int .i64 c9) = V1 ∧ Blk V1 pb #[.int .i64 c9, .slice a M.length cap] 28 ∧ Off pb w9 V1 := ⟨_, rfl, X9.set 0 _, Off.setCell (Off.refl _ _) (p := ⟨pb, 0, none⟩) rfl _⟩
            have f91 : V1.frozen? ⟨pb, 1, none⟩ = false := Y1.frozen
            have q91 : V1.cell? ⟨pb, 1, none⟩ = some (.slice a M.length cap) := Y1.cell rfl
            obtain ⟨V2, hV2, Y2, o2⟩ : ∃ V2, V1.setCell ⟨pb, 1, none⟩ (.slice a9 M9.length cap9) = V2 ∧ Blk V2 pb #[.int .i64 c9, .slice a9 M9.length cap9] 28 ∧ Off pb V1 V2 := ⟨_, rfl, Y1.set 1 _, Off.setCell (Off.refl _ _) (p := ⟨pb, 1, none⟩) rfl _⟩
            have R10 : Hid (PR V2 (.slice a9 M9.length cap9) M9) := PR.offS R9 X9 (o1.trans o2)
            have S10 : Hid _ := S9
            have K10 : Hid _ := Kp5.off (Kp5.below K8.out b9') X9 (o1.trans o2) (by omega) (by omega) (by omega) (by omega) (by omega)
            clear R9 S9
            refine hK _ _ ?_
            clear hK
            refine wpAny_ready (rs := [6]) (by kernel_rfl) (by simp) ?_
            refine AllReady.cons rfl (fun K hK => ?_) AllReady.nil
            go_simp
            refine hK _ _ ?_
            clear hK
            refine wpAny_done (by kernel_rfl) ?_ _
            go_wp2
            refine ⟨⟨i + 1, T8, c9, a9, cap9, M9, by omega, by omega, by norm_cast, Y2, R10, S10, by omega, K10⟩, ?_⟩
            simp [intOf]; omega
end Go.Proofs.Ytakdnkknmjahoaa

namespace Go.Proofs.Ytakdnkknmjahoaa
open Go.ChangeShapes Go.WideShapes Go.ChangeAt Go.RowKit
open Go.ChangeMaps (open_string shut_string)
set_option linter.unusedVariables false

set_option maxRecDepth 100000 in
theorem merkleBent_lifted (os : Os) (started : os.Started) (H : Type) (enc : TypeId × Value → H) :
    ReturnsInHanded {} Try.checked os 4 .any (Rows.merkleBentSpec.pre6 enc Try.prog Try.f4 Rows.merkleBentRow.domain false) (Rows.merkleBentSpec.post enc Try.prog Try.f4 false true false false) := by
  refine returnsInHanded_of_change_sized (C := Try.checked) own_knob started (by kernel_rfl) Try.func4
    (ChangeSpec.witness6 (enc := enc) (C := Try.checked) false ⟨#[], #[.slice none 0 0, .slice none 0 0, .string .empty, .string .empty, .slice none 0 0], []⟩ 8 (by kernel_rfl) (by kernel_rfl) (by kernel_rfl) (by kernel_rfl)) ?_
  intro W base args ds gs before hval0 hW hcnd hsz0 _
  have hval : ∀ (j : Nat) t v, Try.f4.params[j]? = some t → args[j]? = some v → Value.okWide Try.prog W .any base t v := hval0
  have hW' := hW
  obtain ⟨p, q, hA0, hV, rfl, hfz, hnd⟩ := hW
  have hA : DataW.TrodAll enc Try.prog W 0 (fun _ => true) true Try.f4.params.toList args.toList ds p := hA0
  rw [Try.params4] at hA hval
  obtain ⟨v0, vs0, d0, ds0, p0, q0, hargs, rfl, rfl, h0, r0⟩ := trodAll_cons hA
  obtain ⟨v1, vs1, d1, ds1, p1, q1, rfl, rfl, rfl, h1, r1⟩ := trodAll_cons r0
  obtain ⟨v2, vs2, d2, ds2, p2, q2, rfl, rfl, rfl, h2, r2⟩ := trodAll_cons r1
  obtain ⟨v3, vs3, d3, ds3, p3, q3, rfl, rfl, rfl, h3, r3⟩ := trodAll_cons r2
  obtain ⟨v4, vs4, d4, ds4, p4, q4, rfl, rfl, rfl, h4, r4⟩ := trodAll_cons r3
  obtain ⟨rfl, rfl, rfl⟩ := trodAll_nil r4
  obtain rfl : args = #[v0, v1, v2, v3, v4] := by cases args; simp_all
  obtain ⟨rfl, rfl⟩ := trodVars_none hV
  obtain ⟨s2, rfl, rfl, rfl, mx2⟩ := open_string Try.underlying9 (hval 2 9 v2 rfl rfl) h2
  obtain ⟨s3, rfl, rfl, rfl, mx3⟩ := open_string Try.underlying9 (hval 3 9 v3 rfl rfl) h3
  clear hA0
  try simp only [List.append_nil] at hW'
  try simp only [List.nil_append] at hW'
  have hsz1 : (DataW.weightsEach Try.prog [22, 22, 9, 9, 38] [d0, d1, .lit (.string s2.data.toList), .lit (.string s3.data.toList), d4]).all (· ≤ reachBytes) = true := hsz0
  have hszb0 : (DataW.weights Try.prog 22 d0).all (· ≤ reachBytes) = true := List.all_eq_true.2 fun m hm => List.all_eq_true.1 hsz1 m (DataW.weights_mem_each (j := 0) (t := 22) (d := d0) rfl rfl m hm)
  have hlt0 : ∀ x ∈ p0, x.block < W.heap.size := fun x hx => by simpa using hW'.lt x (by simp [hx])
  have hcell0 : v0.cells = #[v0] := by
    obtain ⟨p', n', c', rfl⟩ := okWide_slice Try.underlying22 (hval 0 22 v0 rfl rfl)
    rfl
  obtain ⟨l0, hl0, zl0⟩ := open_rcs hcell0 h0 hszb0 hlt0
  have hszb1 : (DataW.weights Try.prog 22 d1).all (· ≤ reachBytes) = true := List.all_eq_true.2 fun m hm => List.all_eq_true.1 hsz1 m (DataW.weights_mem_each (j := 1) (t := 22) (d := d1) rfl rfl m hm)
  have hlt1 : ∀ x ∈ p1, x.block < W.heap.size := fun x hx => by simpa using hW'.lt x (by simp [hx])
  have hcell1 : v1.cells = #[v1] := by
    obtain ⟨p', n', c', rfl⟩ := okWide_slice Try.underlying22 (hval 1 22 v1 rfl rfl)
    rfl
  obtain ⟨l1, hl1, zl1⟩ := open_rcs hcell1 h1 hszb1 hlt1
  have z2 : s2.size ≤ 140737488351232 := by
    have h := sized_string hsz1 (j := 2) rfl rfl
    rw [Array.length_toList] at h
    exact h
  have z3 : s3.size ≤ 140737488351232 := by
    have h := sized_string hsz1 (j := 3) rfl rfl
    rw [Array.length_toList] at h
    exact h
  have hszb4 : (DataW.weights Try.prog 38 d4).all (· ≤ reachBytes) = true := List.all_eq_true.2 fun m hm => List.all_eq_true.1 hsz1 m (DataW.weights_mem_each (j := 4) (t := 38) (d := d4) rfl rfl m hm)
  have hlt4 : ∀ x ∈ p4, x.block < W.heap.size := fun x hx => by simpa using hW'.lt x (by simp [hx])
  have hcell4 : v4.cells = #[v4] := by
    obtain ⟨p', n', c', rfl⟩ := okWide_slice Try.underlying38 (hval 4 38 v4 rfl rfl)
    rfl
  obtain ⟨l4, hl4, zl4⟩ := open_bds hcell4 h4 hszb4 hlt4
  refine (merkleBent_calls v0 v1 l0 l1 s2 s3 v4 l4 W hl0 hl1 hl4 zl4).mono fun e W' ⟨he, hg⟩ => ?_
  subst he
  have harg := trodAll_cons_mk (Below.trod prog_laid (by kernel_rfl) (of_decide_eq_true (by kernel_rfl)) h0 hg hlt0) (trodAll_cons_mk (Below.trod prog_laid (by kernel_rfl) (of_decide_eq_true (by kernel_rfl)) h1 hg hlt1) (trodAll_cons_mk (shut_string Try.underlying9 mx2) (trodAll_cons_mk (shut_string Try.underlying9 mx3) (trodAll_cons_mk (Below.trod prog_laid (by kernel_rfl) (of_decide_eq_true (by kernel_rfl)) h4 hg hlt4) (trodAll_mk0 (enc := enc) (P := Try.prog) (w := W') (base := 0) (spare := fun b => decide (b < W.heap.size)) (held := true))))))
  try simp only [List.append_nil] at harg
  try simp only [List.nil_append] at harg
  exact ⟨_, rfl, _, _, _, [], p0 ++ (p1 ++ p4), [], hW', trodAll_cons_mk (shut_bool Try.underlying4 _) trodAll_mk0,
    harg, rfl,
    hg.frame _, fun h => by cases h⟩

theorem merkleBent_holds : Rows.MerkleBentSaid :=
  OpenClaim.holds_of_wide 4 Try.f4 rfl rfl rfl rfl rfl rfl rfl ⟨rfl, rfl, rfl, rfl, rfl⟩ rfl rfl rfl rfl rfl (by kernel_rfl) Try.func4 (by kernel_rfl)
    (of_decide_eq_true (by kernel_rfl)) (by unfold Func.isWrapper; first | (rw [if_pos (by decide +kernel)]; kernel_rfl) | (rw [if_neg (by decide +kernel)]; exact ⟨rfl, rfl⟩))
    (fun os started H enc _ => merkleBent_lifted os started H enc)
#print axioms merkleBent_holds
end Go.Proofs.Ytakdnkknmjahoaa
