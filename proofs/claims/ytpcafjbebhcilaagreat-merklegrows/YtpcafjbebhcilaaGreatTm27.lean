/- A key's proof: the program's answer. -/
import Derived.Test.YtpcafjbebhcilaaGreatTm26
import Derived.Test.YtpcafjbebhcilaaGreatTm16
import Derived.Deep.DeepCutAuto
import Derived.Deep.CutBlock
namespace Go.Proofs.YtpcafjbebhcilaaGreat
open Go.RowKit
set_option linter.unusedSimpArgs false
set_option linter.unusedVariables false
variable {p b x y : Nat} {T : List ByteArray} {S : List (Int × ByteArray)}

/-- A path of a tree. -/
def PathOk (T : List ByteArray) (l : List Rc) (ls : List ByteArray) (i : Nat) (x : Pt) : Prop := x.idx = i ∧ ∃ m, l[i]? = some m ∧ x.key = m.key ∧ x.dat = m.dat ∧ Sides T ls i x.sides
theorem PathOk.ext {T T' : List ByteArray} (e : Ext T T') {l : List Rc} {ls : List ByteArray} {i : Nat} {x : Pt} (h : PathOk T l ls i x) : PathOk T' l ls i x := by
  obtain ⟨h1, m, h2, h3, h4, h5⟩ := h
  exact ⟨h1, m, h2, h3, h4, h5.ext e⟩

theorem prove_results {w' : World} {c0 c1 : Value} {r : Nat} (X : Blk w' r #[c0, c1] 36) {t : Array Value} (h1 : t.getD 4 undef = .pointer (some ⟨r, 0, none⟩)) :
    (results Tryz.f35 t).run Tryz.prog w' = .ok (.agg #[c0, c1]) w' := by
  have a0 := X.cell (o := 0) rfl
  have a1 := X.cell (o := 1) rfl
  simp only [Array.getD_eq_getD_getElem?] at h1
  simp [results, Tryz.results35, go_sem, h1, a0, a1]
theorem infoPf2 (u v : Value) : (Tryz.prog.info? 36).map (·.size) = some (#[u, v] : Array Value).size := by kernel_rfl
theorem pfSame (u v u' v' : Value) : (#[u, v] : Array Value).size = (#[u', v'] : Array Value).size := rfl
theorem pfOne (n : Int) (q : Option Addr) (m c : Nat) : (#[.int .i64 n, .slice q m c] : Array Value).all (·.oneCell') = true := by simp [Value.oneCell']
/-- The path ahead of where a key would stand. -/
def AOk (T : List ByteArray) (l : List Rc) (ls : List ByteArray) (r : Nat) (A : List Pt) : Prop := (r = 0 → A = []) ∧ (0 < r → ∃ t, A = [t] ∧ PathOk T l ls (r - 1) t)
theorem AOk.nil {T : List ByteArray} {l : List Rc} {ls : List ByteArray} {r : Nat} (h : r = 0) : AOk T l ls r [] := ⟨fun _ => rfl, fun h2 => by omega⟩
/-- The path of where a key would stand. -/
def BOk (T : List ByteArray) (l : List Rc) (ls : List ByteArray) (r : Nat) (B : List Pt) : Prop := (l.length ≤ r → B = []) ∧ (r < l.length → ∃ t, B = [t] ∧ PathOk T l ls r t)
/-- The cells of paths. -/
def ptC (A : List (Pt × Value)) : List Value := A.flatMap fun q => [.int .i64 q.1.idx, .string q.1.key, .string q.1.dat, q.2]
/-- The paths that show what there is at a key. -/
def PathsOk (T : List ByteArray) (l : List Rc) (ls : List ByteArray) (key : ByteArray) (r : Nat) (ts : List Pt) : Prop :=
  (hasAt l r key = true → ∃ t, ts = [t] ∧ PathOk T l ls r t) ∧ (hasAt l r key = false → ∃ A B, ts = A ++ B ∧ AOk T l ls r A ∧ BOk T l ls r B)
theorem AOk.ext {T T' : List ByteArray} (e : Ext T T') {l : List Rc} {ls : List ByteArray} {r : Nat} {A : List Pt} (h : AOk T l ls r A) : AOk T' l ls r A := ⟨h.1, fun k => by obtain ⟨t, h1, h2⟩ := h.2 k; exact ⟨t, h1, h2.ext e⟩⟩
/-- What prove answers. -/
def ProveP (x y p b : Nat) (T : List ByteArray) (S : List (Int × ByteArray)) (w : World) (l : List Rc) (ls : List ByteArray) (key : ByteArray) (e : Ending) (w' : World) : Prop :=
  ∃ (r : Nat) (L : List (Pt × Value)) (T' : List ByteArray) (pv : Option Addr) (cv : Nat), Spot l key r ∧ PathsOk T' l ls key r (L.map Prod.fst) ∧ e = .returned (.agg #[.int .i64 l.length, .slice pv L.length cv]) ∧ w'.ownsRow w.heap.size 80 4 (.slice pv L.length cv) L.length (ptC L) ∧ (∀ q ∈ L, w'.ownsRow w.heap.size 9 1 q.2 q.1.sides.length (txC q.1.sides)) ∧ Grew x y p b T S w (2 * l.length) T' w'
theorem Rcs.off2 {w w' : World} {v : Value} {l : List Rc} (h : Rcs w v l) (hb : Book w p b x y T S) (ho : Off2 x y w w') : Rcs w' v l := by
  rcases h with h | ⟨g, off, cap, hv, hc⟩
  · exact Or.inl h
  · refine Or.inr ⟨g, off, cap, hv, fun i hi => ?_⟩
    obtain ⟨h1, h2, h4⟩ := hc i hi
    exact ⟨keepCell2 hb ho h1, keepCell2 hb ho h2, h4⟩
theorem own_one {w : World} {g : Nat} {c0 c1 c2 c3 : Value} {base : Nat} (h : Blk w g #[c0, c1, c2, c3] 80) (hb : base ≤ g) : w.ownsRow base 80 4 (.slice (some ⟨g, 0, none⟩) 1 1) 1 [c0, c1, c2, c3] :=
  ⟨rfl, Or.inr ⟨g, 1, _, rfl, hb, h, by omega, by unfold maxLen; omega, rfl, rfl⟩⟩
theorem ptC_snoc (A : List (Pt × Value)) (q : Pt × Value) : ptC (A ++ [q]) = ptC A ++ [.int .i64 q.1.idx, .string q.1.key, .string q.1.dat, q.2] := by simp [ptC]
theorem own_twoM {w : World} {base base' : Nat} {e e' : TypeId} {z z' : Nat} {v v' : Value} {n n' : Nat} {xs xs' : List Value} (h : w.ownsRow base e z v n xs) (h' : w.ownsRow base' e' z' v' n' xs') (he : e ≠ e') : v.ownBlock = none ∨ v.ownBlock ≠ v'.ownBlock := by
  cases hv : v.ownBlock with
  | none => exact Or.inl rfl
  | some k =>
    refine Or.inr (fun e2 => ?_)
    obtain ⟨c1, h1⟩ := own_heap h hv
    obtain ⟨c2, h2⟩ := own_heap h' e2.symm
    rw [h1] at h2
    simp only [Option.some.injEq, Obj.cells.injEq] at h2
    exact he h2.2.1
theorem infoPath3 : (Tryz.prog.info? 80).map (fun i => (i.zero, i.size, i.bytes)) = some (some (.agg #[.int .i64 0, .string ⟨#[]⟩, .string ⟨#[]⟩, .slice none 0 0]), 4, 64) := by kernel_rfl
set_option maxHeartbeats 4000000 in
set_option maxRecDepth 100000 in
theorem prove_calls (k : Nat) (lv dv : Value) (l : List Rc) (ls : List ByteArray) (key : ByteArray) (w : World) (hX : Blk w k #[.pointer (some ⟨p, 0, none⟩), lv, dv] 64) (hr : Rcs w lv l) (hl : l.length ≤ 4096) (hri : Rising l) (hz : ∀ m ∈ l, m.key.size ≤ 64 ∧ m.dat.size ≤ 4096)
    (hL : Lf w dv ls) (hll : ls.length = l.length) (hsz : ∀ s ∈ ls, s.size ≤ 32) (h : Book w p b x y T S) (hT : T.length + 2 * l.length < 1000000) :
    Calls Tryz.prog 35 #[.pointer (some ⟨k, 0, none⟩), .string key] w fun e w' => ProveP x y p b T S w l ls key e w' := by
  obtain ⟨iP, hi, hi0, hi1, hi2⟩ := info_parts infoPath3
  obtain ⟨a, cap, rfl⟩ := hr.len
  obtain ⟨W1, hW1, X1, B1, Z1⟩ : ∃ W1, w.alloc (.cells #[.int .i64 0, .slice none 0 0] 36) = W1 ∧ Blk W1 w.heap.size #[.int .i64 0, .slice none 0 0] 36 ∧ Below w.heap.size w W1 ∧ W1.heap.size = w.heap.size + 1 :=
    ⟨_, rfl, blk_new _ _ _ _ rfl, by go_grown, by simp⟩
  have XT := hX.below B1
  have d1 : W1.cell? ⟨k, 1, none⟩ = some (.slice a l.length cap) := XT.cell rfl
  obtain ⟨W2, hW2, X2, XP, B2, Z2⟩ : ∃ W2, W1.alloc (.cells #[.int .i64 0, .slice none 0 0] 36) = W2 ∧ Blk W2 w.heap.size #[.int .i64 0, .slice none 0 0] 36 ∧ Blk W2 (w.heap.size + 1) #[.int .i64 0, .slice none 0 0] 36 ∧ Below W1.heap.size W1 W2 ∧ W2.heap.size = w.heap.size + 2 :=
    ⟨_, rfl, X1.alloc _, blk_new _ _ _ _ (by rw [Z1]), by go_grown, by simp [Z1]⟩
  obtain ⟨W3, hW3, X3, hoth, Z3, ho3⟩ := setRow_named XP #[.int .i64 l.length, .slice none 0 0]
  have B3 : Below w.heap.size w W3 := below_row (chain B1 B2) hW3 (by omega)
  have Y3 : Blk W3 w.heap.size #[.int .i64 0, .slice none 0 0] 36 := blk_row X2 hW3 (by omega)
  have HF : Hid _ := find_calls k (.slice a l.length cap) dv (.pointer (some ⟨p, 0, none⟩)) l key W3 (hX.below B3) (hr.below B3) hl hri
  have HIN : Hid _ := infoPf2
  go_enter Tryz.func35, Tryz.ntmps35
  go_wp2_with ((with_reducible refine st_row (ty := 36) XP (infoPf2 _ _) (pfSame _ _ _ _) (pfOne _ _ _ _) hW3 ?_ ?_ ?_); rfl; rfl)
  refine Calls.mono HF.out ?_
  rintro e w4 ⟨r, rfl, hsp, b4⟩
  have HSP : Hid _ := hsp
  clear hsp HF
  cases hh : hasAt l r key
  · have b34 := chain B3 b4
    have hrl := HSP.out.le
    have HH : Hid _ := h
    have hlts := h.lts
    have z4 := b4.size
    have z3 := B3.size
    have X4 := X3.below b4
    have Y4 := Y3.below b4
    go_upto_if 28 with fail
    go_cut [] (fun wx => ∃ (A : List (Pt × Value)) (T1 : List ByteArray) (pv : Option Addr) (cv : Nat), AOk T1 l ls r (A.map Prod.fst) ∧ Blk wx (w.heap.size + 1) #[.int .i64 l.length, .slice pv A.length cv] 36 ∧ Blk wx w.heap.size #[.int .i64 0, .slice none 0 0] 36 ∧ wx.ownsRow (w.heap.size + 2) 80 4 (.slice pv A.length cv) A.length (ptC A) ∧ (∀ q ∈ A, wx.ownsRow (w.heap.size + 2) 9 1 q.2 q.1.sides.length (txC q.1.sides)) ∧ Grew x y p b T S w l.length T1 wx ∧ w.heap.size + 2 ≤ wx.heap.size)
    case first =>
      by_cases hr0 : 0 < r
      · have hd0 : decide ((0 : Int) < (r : Int)) = true := by simp only [decide_eq_true_eq]; omega
        obtain ⟨m, hm⟩ : ∃ m, l[r - 1]? = some m := ⟨l[r - 1]'(by omega), List.getElem?_eq_getElem (by omega)⟩
        have hdw : Below w4.heap.size w4 w4.drew := (Below.refl _ _).drew
        have HPM : Hid _ := path_mk k (r - 1) (.slice a l.length cap) dv l ls m w4.drew (hX.below (chain b34 hdw)) (hr.below (chain b34 hdw)) hl hm (hz m (List.mem_of_getElem? hm)) (hL.below (chain b34 hdw)) hll hsz (h.below (chain b34 hdw)) (by omega)
        have HM : Hid _ := hm
        obtain ⟨A, T1, pv, cv, hA0, hP, hR, ho, hos, G⟩ : ∃ (A : List (Pt × Value)) (T1 : List ByteArray) (pv : Option Addr) (cv : Nat), A = [] ∧ Blk w4.drew (w.heap.size + 1) #[.int .i64 l.length, .slice pv A.length cv] 36 ∧ Blk w4.drew w.heap.size #[.int .i64 0, .slice none 0 0] 36 ∧ w4.drew.ownsRow (w.heap.size + 2) 80 4 (.slice pv A.length cv) A.length (ptC A) ∧ (∀ q ∈ A, w4.drew.ownsRow (w.heap.size + 2) 9 1 q.2 q.1.sides.length (txC q.1.sides)) ∧ Grew x y p b T S w 0 T w4.drew :=
          ⟨[], T, none, 0, rfl, X4, Y4, World.ownsRow_nil _ _ _ _, fun q hq => by simp at hq, (Grew.refl h).below (chain b34 hdw)⟩
        have zd : w4.heap.size ≤ w4.drew.heap.size := Nat.le_refl _
        have hAl : A.length ≤ 1 := by rw [hA0]; decide
        have HA0 : Hid _ := hA0
        clear hA0
        have c4 : w4.drew.cell? ⟨w.heap.size + 1, 1, none⟩ = some (.slice pv A.length cv) := hP.cell rfl
        clear hm hX hr hL hsz h hz hri X1 X2 XP hW1 hW2 hW3 X3 Y3 XT d1 hoth hh
        go_wp2_with fail
        refine wp_region_any (by kernel_rfl) ?_
        change wpAny _ _ _ _ _ _ _ (World.drew _)
        refine wpAny_take (i := 0) (v := (.pointer (some ⟨w.heap.size + 1, 1, none⟩))) rfl (by kernel_rfl) (by kernel_rfl) (by kernel_rfl) (fun _ _ _ h => h) (Or.inl ⟨by rfl, fun w => by go_simp⟩) ?_
        refine wpAny_take (i := 2) (v := (.pointer (some ⟨k, 0, none⟩))) rfl (by kernel_rfl) (by kernel_rfl) (by kernel_rfl) (fun _ _ _ h => h) (Or.inl ⟨by rfl, fun w => by go_simp⟩) ?_
        refine wpAny_take (i := 3) (v := (.int .i64 r)) rfl (by kernel_rfl) (by kernel_rfl) (by kernel_rfl) (fun _ _ _ h => h) (Or.inl ⟨by rfl, fun w => by go_simp⟩) ?_
        refine wpAny_take (i := 4) (v := (.int .i64 (r - 1 : Nat))) rfl (by kernel_rfl) (by kernel_rfl) (by kernel_rfl) (fun _ _ _ h => h) (Or.inl ⟨by rfl, fun w => by go_simp; rw [wrapI _ (by omega) (by omega)]; omega⟩) ?_
        refine wpAny_ready (rs := [1, 5]) (by kernel_rfl) (by simp) ?_
        refine AllReady.cons rfl (fun K hK => ?_) (AllReady.cons rfl (fun K hK => ?_) AllReady.nil)
        · go_simp
          refine hK _ _ ?_
          clear hK
          refine wpAny_ready (rs := [5]) (by kernel_rfl) (by simp) ?_
          refine AllReady.cons rfl (fun K hK => ?_) AllReady.nil
          go_simp
          refine Calls.mono HPM.out ?_
          rintro e w5 ⟨sv, ss, T2, rfl, t1, o5, G5⟩
          refine hK _ _ ?_
          clear hK
          obtain ⟨ps, cs, rfl⟩ := own_sliceM o5
          have z5 := G5.off.size
          have P5 := hP.off2 G5.off (by omega) (by omega)
          have R5 := hR.off2 G5.off (by omega) (by omega)
          have ho5 := own_off2 G.book ho G5.off
          have hos5 : ∀ q ∈ A, w5.ownsRow (w.heap.size + 2) 9 1 q.2 q.1.sides.length (txC q.1.sides) := fun q hq => own_off2 G.book (hos q hq) G5.off
          have c5 : w5.cell? ⟨w.heap.size + 1, 1, none⟩ = some (.slice pv A.length cv) := P5.cell rfl
          refine wpAny_ready (rs := [6]) (by kernel_rfl) (by simp) ?_
          refine AllReady.cons rfl (fun K hK => ?_) AllReady.nil
          go_simp
          refine hK _ _ ?_
          clear hK
          have c6 : (w5.alloc (.cells #[.int .i64 (r - 1 : Nat), .string m.key, .string m.dat, .slice ps ss.length cs] 80)).cell? ⟨w.heap.size + 1, 1, none⟩ = some (.slice pv A.length cv) := (P5.alloc _).cell rfl
          refine wpAny_ready (rs := [7]) (by kernel_rfl) (by simp) ?_
          refine AllReady.cons rfl (fun K hK => ?_) AllReady.nil
          refine step_ifM rfl ?_
          refine wp_append_own _ (.tmp 30) (.tmp 35) 34 rfl (w.heap.size + 2) 80 iP (.agg #[.int .i64 0, .string ⟨#[]⟩, .string ⟨#[]⟩, .slice none 0 0]) 4 64 Tryz.underlying34 hi hi0 hi1 hi2 rfl (by decide) (.slice pv A.length cv) A.length (ptC A) rfl (ho5.alloc _) ⟨w5.heap.size, 0, none⟩ 1 1 [.int .i64 (r - 1 : Nat), .string m.key, .string m.dat, .slice ps ss.length cs] rfl rfl ?_ ?_ ?_ ?_ ?_ ?_
          · intro j u hj
            rw [Addr.add_mid, Nat.zero_add]
            exact (blk_new w5 w5.heap.size _ _ rfl).cell (by simpa using hj)
          · intro u hu
            simp at hu
            rcases hu with rfl | rfl | rfl | rfl <;> rfl
          · unfold maxLen; omega
          · omega
          · simp; omega
          intro v' w7 hown' hgrow _
          obtain ⟨pv', cv', rfl⟩ := own_sliceM hown'
          have zg := hgrow.size
          simp at zg
          have P7 : Blk w7 (w.heap.size + 1) #[.int .i64 l.length, .slice pv A.length cv] 36 := (hgrow.block (w.heap.size + 1) (by simp; omega) (fun e => by have := (ho5.lt _ e.symm).1; omega)).trans (P5.alloc _)
          have R7 : Blk w7 w.heap.size #[.int .i64 0, .slice none 0 0] 36 := (hgrow.block w.heap.size (by simp; omega) (fun e => by have := (ho5.lt _ e.symm).1; omega)).trans (R5.alloc _)
          have hos7 : ∀ q ∈ A, w7.ownsRow (w.heap.size + 2) 9 1 q.2 q.1.sides.length (txC q.1.sides) := fun q hq => (World.ownsRow.alloc (hos5 q hq) _).kept hgrow (own_twoM ((hos5 q hq).alloc (.cells #[.int .i64 (r - 1 : Nat), .string m.key, .string m.dat, .slice ps ss.length cs] 80)) (ho5.alloc _) (by decide))
          have o7 : w7.ownsRow (w.heap.size + 2) 9 1 (.slice ps ss.length cs) ss.length (txC ss) := (World.ownsRow.alloc (ownsRow_weakM o5 (by omega)) _).kept hgrow (own_twoM ((ownsRow_weakM o5 (base2 := w.heap.size + 2) (by omega)).alloc (.cells #[.int .i64 (r - 1 : Nat), .string m.key, .string m.dat, .slice ps ss.length cs] 80)) (ho5.alloc _) (by decide))
          have G6 := (G.trans G5).below ((Below.refl w5.heap.size w5).alloc (Nat.le_refl _) (.cells #[.int .i64 (r - 1 : Nat), .string m.key, .string m.dat, .slice ps ss.length cs] 80))
          have G7 := G6.grown (ho5.alloc _) (by decide) (by decide) (by omega) hgrow
          have f7 : w7.frozen? ⟨w.heap.size + 1, 1, none⟩ = false := P7.frozen
          have c7 : w7.cell? ⟨w.heap.size + 1, 1, none⟩ = some (.slice pv A.length cv) := P7.cell rfl
          refine hK _ _ ?_
          clear hK
          refine wpAny_ready (rs := [8]) (by kernel_rfl) (by simp) ?_
          refine AllReady.cons rfl (fun K hK => ?_) AllReady.nil
          go_simp
          refine hK _ _ ?_
          clear hK
          refine wpAny_ready (rs := [9]) (by kernel_rfl) (by simp) ?_
          refine AllReady.cons rfl (fun K hK => ?_) AllReady.nil
          go_simp
          refine hK _ _ ?_
          clear hK
          refine wpAny_done (by kernel_rfl) ?_ _
          go_wp2
          go_meet
          have e1 : (A ++ [((⟨(r - 1 : Nat), m.key, m.dat, ss⟩ : Pt), (.slice ps ss.length cs : Value))]).length = A.length + 1 := by simp
          refine ⟨A ++ [(⟨(r - 1 : Nat), m.key, m.dat, ss⟩, .slice ps ss.length cs)], T2, pv', cv', ?_, ?_, ?_, ?_, ?_, ?_, ?_⟩
          · rw [HA0.out]; exact ⟨fun h0 => by omega, fun _ => ⟨_, rfl, rfl, m, HM.out, rfl, rfl, t1⟩⟩
          · rw [e1]; exact P7.set 1 _
          · exact R7.setOther (by simp) _
          · rw [e1, ptC_snoc]; exact own_setM hown' (by omega)
          · intro q hq
            rcases List.mem_append.1 hq with hq | hq
            · exact own_setM (hos7 q hq) (by omega)
            · simp only [List.mem_singleton] at hq; subst hq; exact own_setM o7 (by omega)
          · exact (G7.set (by omega) (by omega) (by omega) (by omega) (by omega)).le (by omega)
          · simp [World.setCell]; omega
        · go_simp
          refine Calls.mono HPM.out ?_
          rintro e w5 ⟨sv, ss, T2, rfl, t1, o5, G5⟩
          refine hK _ _ ?_
          clear hK
          obtain ⟨ps, cs, rfl⟩ := own_sliceM o5
          have z5 := G5.off.size
          have P5 := hP.off2 G5.off (by omega) (by omega)
          have R5 := hR.off2 G5.off (by omega) (by omega)
          have ho5 := own_off2 G.book ho G5.off
          have hos5 : ∀ q ∈ A, w5.ownsRow (w.heap.size + 2) 9 1 q.2 q.1.sides.length (txC q.1.sides) := fun q hq => own_off2 G.book (hos q hq) G5.off
          have c5 : w5.cell? ⟨w.heap.size + 1, 1, none⟩ = some (.slice pv A.length cv) := P5.cell rfl
          refine wpAny_ready (rs := [1, 6]) (by kernel_rfl) (by simp) ?_
          refine AllReady.cons rfl (fun K hK => ?_) (AllReady.cons rfl (fun K hK => ?_) AllReady.nil)
          · go_simp
            refine hK _ _ ?_
            clear hK
            refine wpAny_ready (rs := [6]) (by kernel_rfl) (by simp) ?_
            refine AllReady.cons rfl (fun K hK => ?_) AllReady.nil
            go_simp
            refine hK _ _ ?_
            clear hK
            have c6 : (w5.alloc (.cells #[.int .i64 (r - 1 : Nat), .string m.key, .string m.dat, .slice ps ss.length cs] 80)).cell? ⟨w.heap.size + 1, 1, none⟩ = some (.slice pv A.length cv) := (P5.alloc _).cell rfl
            refine wpAny_ready (rs := [7]) (by kernel_rfl) (by simp) ?_
            refine AllReady.cons rfl (fun K hK => ?_) AllReady.nil
            refine step_ifM rfl ?_
            refine wp_append_own _ (.tmp 30) (.tmp 35) 34 rfl (w.heap.size + 2) 80 iP (.agg #[.int .i64 0, .string ⟨#[]⟩, .string ⟨#[]⟩, .slice none 0 0]) 4 64 Tryz.underlying34 hi hi0 hi1 hi2 rfl (by decide) (.slice pv A.length cv) A.length (ptC A) rfl (ho5.alloc _) ⟨w5.heap.size, 0, none⟩ 1 1 [.int .i64 (r - 1 : Nat), .string m.key, .string m.dat, .slice ps ss.length cs] rfl rfl ?_ ?_ ?_ ?_ ?_ ?_
            · intro j u hj
              rw [Addr.add_mid, Nat.zero_add]
              exact (blk_new w5 w5.heap.size _ _ rfl).cell (by simpa using hj)
            · intro u hu
              simp at hu
              rcases hu with rfl | rfl | rfl | rfl <;> rfl
            · unfold maxLen; omega
            · omega
            · simp; omega
            intro v' w7 hown' hgrow _
            obtain ⟨pv', cv', rfl⟩ := own_sliceM hown'
            have zg := hgrow.size
            simp at zg
            have P7 : Blk w7 (w.heap.size + 1) #[.int .i64 l.length, .slice pv A.length cv] 36 := (hgrow.block (w.heap.size + 1) (by simp; omega) (fun e => by have := (ho5.lt _ e.symm).1; omega)).trans (P5.alloc _)
            have R7 : Blk w7 w.heap.size #[.int .i64 0, .slice none 0 0] 36 := (hgrow.block w.heap.size (by simp; omega) (fun e => by have := (ho5.lt _ e.symm).1; omega)).trans (R5.alloc _)
            have hos7 : ∀ q ∈ A, w7.ownsRow (w.heap.size + 2) 9 1 q.2 q.1.sides.length (txC q.1.sides) := fun q hq => (World.ownsRow.alloc (hos5 q hq) _).kept hgrow (own_twoM ((hos5 q hq).alloc (.cells #[.int .i64 (r - 1 : Nat), .string m.key, .string m.dat, .slice ps ss.length cs] 80)) (ho5.alloc _) (by decide))
            have o7 : w7.ownsRow (w.heap.size + 2) 9 1 (.slice ps ss.length cs) ss.length (txC ss) := (World.ownsRow.alloc (ownsRow_weakM o5 (by omega)) _).kept hgrow (own_twoM ((ownsRow_weakM o5 (base2 := w.heap.size + 2) (by omega)).alloc (.cells #[.int .i64 (r - 1 : Nat), .string m.key, .string m.dat, .slice ps ss.length cs] 80)) (ho5.alloc _) (by decide))
            have G6 := (G.trans G5).below ((Below.refl w5.heap.size w5).alloc (Nat.le_refl _) (.cells #[.int .i64 (r - 1 : Nat), .string m.key, .string m.dat, .slice ps ss.length cs] 80))
            have G7 := G6.grown (ho5.alloc _) (by decide) (by decide) (by omega) hgrow
            have f7 : w7.frozen? ⟨w.heap.size + 1, 1, none⟩ = false := P7.frozen
            have c7 : w7.cell? ⟨w.heap.size + 1, 1, none⟩ = some (.slice pv A.length cv) := P7.cell rfl
            refine hK _ _ ?_
            clear hK
            refine wpAny_ready (rs := [8]) (by kernel_rfl) (by simp) ?_
            refine AllReady.cons rfl (fun K hK => ?_) AllReady.nil
            go_simp
            refine hK _ _ ?_
            clear hK
            refine wpAny_ready (rs := [9]) (by kernel_rfl) (by simp) ?_
            refine AllReady.cons rfl (fun K hK => ?_) AllReady.nil
            go_simp
            refine hK _ _ ?_
            clear hK
            refine wpAny_done (by kernel_rfl) ?_ _
            go_wp2
            go_meet
            have e1 : (A ++ [((⟨(r - 1 : Nat), m.key, m.dat, ss⟩ : Pt), (.slice ps ss.length cs : Value))]).length = A.length + 1 := by simp
            refine ⟨A ++ [(⟨(r - 1 : Nat), m.key, m.dat, ss⟩, .slice ps ss.length cs)], T2, pv', cv', ?_, ?_, ?_, ?_, ?_, ?_, ?_⟩
            · rw [HA0.out]; exact ⟨fun h0 => by omega, fun _ => ⟨_, rfl, rfl, m, HM.out, rfl, rfl, t1⟩⟩
            · rw [e1]; exact P7.set 1 _
            · exact R7.setOther (by simp) _
            · rw [e1, ptC_snoc]; exact own_setM hown' (by omega)
            · intro q hq
              rcases List.mem_append.1 hq with hq | hq
              · exact own_setM (hos7 q hq) (by omega)
              · simp only [List.mem_singleton] at hq; subst hq; exact own_setM o7 (by omega)
            · exact (G7.set (by omega) (by omega) (by omega) (by omega) (by omega)).le (by omega)
            · simp [World.setCell]; omega
          · go_simp
            refine hK _ _ ?_
            clear hK
            have c6 : (w5.alloc (.cells #[.int .i64 (r - 1 : Nat), .string m.key, .string m.dat, .slice ps ss.length cs] 80)).cell? ⟨w.heap.size + 1, 1, none⟩ = some (.slice pv A.length cv) := (P5.alloc _).cell rfl
            refine wpAny_ready (rs := [1]) (by kernel_rfl) (by simp) ?_
            refine AllReady.cons rfl (fun K hK => ?_) AllReady.nil
            go_simp
            refine hK _ _ ?_
            clear hK
            refine wpAny_ready (rs := [7]) (by kernel_rfl) (by simp) ?_
            refine AllReady.cons rfl (fun K hK => ?_) AllReady.nil
            refine step_ifM rfl ?_
            refine wp_append_own _ (.tmp 30) (.tmp 35) 34 rfl (w.heap.size + 2) 80 iP (.agg #[.int .i64 0, .string ⟨#[]⟩, .string ⟨#[]⟩, .slice none 0 0]) 4 64 Tryz.underlying34 hi hi0 hi1 hi2 rfl (by decide) (.slice pv A.length cv) A.length (ptC A) rfl (ho5.alloc _) ⟨w5.heap.size, 0, none⟩ 1 1 [.int .i64 (r - 1 : Nat), .string m.key, .string m.dat, .slice ps ss.length cs] rfl rfl ?_ ?_ ?_ ?_ ?_ ?_
            · intro j u hj
              rw [Addr.add_mid, Nat.zero_add]
              exact (blk_new w5 w5.heap.size _ _ rfl).cell (by simpa using hj)
            · intro u hu
              simp at hu
              rcases hu with rfl | rfl | rfl | rfl <;> rfl
            · unfold maxLen; omega
            · omega
            · simp; omega
            intro v' w7 hown' hgrow _
            obtain ⟨pv', cv', rfl⟩ := own_sliceM hown'
            have zg := hgrow.size
            simp at zg
            have P7 : Blk w7 (w.heap.size + 1) #[.int .i64 l.length, .slice pv A.length cv] 36 := (hgrow.block (w.heap.size + 1) (by simp; omega) (fun e => by have := (ho5.lt _ e.symm).1; omega)).trans (P5.alloc _)
            have R7 : Blk w7 w.heap.size #[.int .i64 0, .slice none 0 0] 36 := (hgrow.block w.heap.size (by simp; omega) (fun e => by have := (ho5.lt _ e.symm).1; omega)).trans (R5.alloc _)
            have hos7 : ∀ q ∈ A, w7.ownsRow (w.heap.size + 2) 9 1 q.2 q.1.sides.length (txC q.1.sides) := fun q hq => (World.ownsRow.alloc (hos5 q hq) _).kept hgrow (own_twoM ((hos5 q hq).alloc (.cells #[.int .i64 (r - 1 : Nat), .string m.key, .string m.dat, .slice ps ss.length cs] 80)) (ho5.alloc _) (by decide))
            have o7 : w7.ownsRow (w.heap.size + 2) 9 1 (.slice ps ss.length cs) ss.length (txC ss) := (World.ownsRow.alloc (ownsRow_weakM o5 (by omega)) _).kept hgrow (own_twoM ((ownsRow_weakM o5 (base2 := w.heap.size + 2) (by omega)).alloc (.cells #[.int .i64 (r - 1 : Nat), .string m.key, .string m.dat, .slice ps ss.length cs] 80)) (ho5.alloc _) (by decide))
            have G6 := (G.trans G5).below ((Below.refl w5.heap.size w5).alloc (Nat.le_refl _) (.cells #[.int .i64 (r - 1 : Nat), .string m.key, .string m.dat, .slice ps ss.length cs] 80))
            have G7 := G6.grown (ho5.alloc _) (by decide) (by decide) (by omega) hgrow
            have f7 : w7.frozen? ⟨w.heap.size + 1, 1, none⟩ = false := P7.frozen
            have c7 : w7.cell? ⟨w.heap.size + 1, 1, none⟩ = some (.slice pv A.length cv) := P7.cell rfl
            refine hK _ _ ?_
            clear hK
            refine wpAny_ready (rs := [8]) (by kernel_rfl) (by simp) ?_
            refine AllReady.cons rfl (fun K hK => ?_) AllReady.nil
            go_simp
            refine hK _ _ ?_
            clear hK
            refine wpAny_ready (rs := [9]) (by kernel_rfl) (by simp) ?_
            refine AllReady.cons rfl (fun K hK => ?_) AllReady.nil
            go_simp
            refine hK _ _ ?_
            clear hK
            refine wpAny_done (by kernel_rfl) ?_ _
            go_wp2
            go_meet
            have e1 : (A ++ [((⟨(r - 1 : Nat), m.key, m.dat, ss⟩ : Pt), (.slice ps ss.length cs : Value))]).length = A.length + 1 := by simp
            refine ⟨A ++ [(⟨(r - 1 : Nat), m.key, m.dat, ss⟩, .slice ps ss.length cs)], T2, pv', cv', ?_, ?_, ?_, ?_, ?_, ?_, ?_⟩
            · rw [HA0.out]; exact ⟨fun h0 => by omega, fun _ => ⟨_, rfl, rfl, m, HM.out, rfl, rfl, t1⟩⟩
            · rw [e1]; exact P7.set 1 _
            · exact R7.setOther (by simp) _
            · rw [e1, ptC_snoc]; exact own_setM hown' (by omega)
            · intro q hq
              rcases List.mem_append.1 hq with hq | hq
              · exact own_setM (hos7 q hq) (by omega)
              · simp only [List.mem_singleton] at hq; subst hq; exact own_setM o7 (by omega)
            · exact (G7.set (by omega) (by omega) (by omega) (by omega) (by omega)).le (by omega)
            · simp [World.setCell]; omega
      · have hd0 : decide ((0 : Int) < (r : Int)) = false := by simp only [decide_eq_false_iff_not]; omega
        go_wp2
        go_meet
        exact ⟨[], T, none, 0, AOk.nil (by omega), X4, Y4, World.ownsRow_nil _ _ _ _, fun q hq => by simp at hq, ((Grew.refl HH.out).below b34).le (Nat.zero_le _), by omega⟩
    case rest =>
      obtain ⟨A, T1, pv, cv, hA, hP, hR, ho, hos, G, hz5⟩ := hcut
      have hkx : k ≠ x := fun e => by have h1 := hX; unfold Blk at h1; rw [e, h.nums.mx] at h1; cases h1
      have hky : k ≠ y := fun e => by have h1 := hX; unfold Blk at h1; rw [e, h.nums.my] at h1; cases h1
      have XC := hX.off2 G.off hkx hky
      have d2 : wc.cell? ⟨k, 1, none⟩ = some (.slice a l.length cap) := XC.cell rfl
      have HAO : Hid _ := hA
      have hAl : A.length ≤ 1 := by
        by_cases h0 : r = 0
        · have := hA.1 h0
          have e : A = [] := by simpa using this
          rw [e]; decide
        · obtain ⟨t0, e, _⟩ := hA.2 (by omega)
          have : (A.map Prod.fst).length = 1 := by rw [e]; rfl
          rw [List.length_map] at this; omega
      go_upto_if 44 with fail
      go_cut [] (fun wx => ∃ (L : List (Pt × Value)) (T2 : List ByteArray) (pv : Option Addr) (cv : Nat), (∃ A B, L.map Prod.fst = A ++ B ∧ AOk T2 l ls r A ∧ BOk T2 l ls r B) ∧ Blk wx (w.heap.size + 1) #[.int .i64 l.length, .slice pv L.length cv] 36 ∧ Blk wx w.heap.size #[.int .i64 0, .slice none 0 0] 36 ∧ wx.ownsRow (w.heap.size + 2) 80 4 (.slice pv L.length cv) L.length (ptC L) ∧ (∀ q ∈ L, wx.ownsRow (w.heap.size + 2) 9 1 q.2 q.1.sides.length (txC q.1.sides)) ∧ Grew x y p b T S w (2 * l.length) T2 wx ∧ w.heap.size + 2 ≤ wx.heap.size)
      case first =>
        by_cases hrn : r < l.length
        · have hd0 : decide ((r : Int) < (l.length : Int)) = true := by simp only [decide_eq_true_eq]; omega
          obtain ⟨m, hm⟩ : ∃ m, l[r]? = some m := ⟨l[r], List.getElem?_eq_getElem hrn⟩
          have hdw : Below wc.heap.size wc wc.drew := (Below.refl _ _).drew
          have lG := G.len
          have HPM : Hid _ := path_mk k r (.slice a l.length cap) dv l ls m wc.drew (XC.below hdw) ((hr.off2 h G.off).below hdw) hl hm (hz m (List.mem_of_getElem? hm)) ((hL.off2 h G.off).below hdw) hll hsz (G.book.below hdw) (by omega)
          have HM : Hid _ := hm
          have zd : wc.heap.size ≤ wc.drew.heap.size := Nat.le_refl _
          have G := G.below hdw
          have ho := own_below ho hdw
          have hos : ∀ q ∈ A, wc.drew.ownsRow (w.heap.size + 2) 9 1 q.2 q.1.sides.length (txC q.1.sides) := fun q hq => own_below (hos q hq) hdw
          have hP := hP.below hdw
          have hR := hR.below hdw
          have c4 : wc.drew.cell? ⟨w.heap.size + 1, 1, none⟩ = some (.slice pv A.length cv) := hP.cell rfl
          clear hm hX hr hL hsz h hz hri X1 X2 XP hW1 hW2 hW3 X3 Y3 XT d1 hoth hh hA XC
          go_wp2_with fail
          refine wp_region_any (by kernel_rfl) ?_
          change wpAny _ _ _ _ _ _ _ (World.drew _)
          refine wpAny_take (i := 0) (v := (.pointer (some ⟨w.heap.size + 1, 1, none⟩))) rfl (by kernel_rfl) (by kernel_rfl) (by kernel_rfl) (fun _ _ _ h => h) (Or.inl ⟨by rfl, fun w => by go_simp⟩) ?_
          refine wpAny_take (i := 2) (v := (.pointer (some ⟨k, 0, none⟩))) rfl (by kernel_rfl) (by kernel_rfl) (by kernel_rfl) (fun _ _ _ h => h) (Or.inl ⟨by rfl, fun w => by go_simp⟩) ?_
          refine wpAny_take (i := 3) (v := (.int .i64 r)) rfl (by kernel_rfl) (by kernel_rfl) (by kernel_rfl) (fun _ _ _ h => h) (Or.inl ⟨by rfl, fun w => by go_simp⟩) ?_
          refine wpAny_ready (rs := [1, 4]) (by kernel_rfl) (by simp) ?_
          refine AllReady.cons rfl (fun K hK => ?_) (AllReady.cons rfl (fun K hK => ?_) AllReady.nil)
          · go_simp
            refine hK _ _ ?_
            clear hK
            refine wpAny_ready (rs := [4]) (by kernel_rfl) (by simp) ?_
            refine AllReady.cons rfl (fun K hK => ?_) AllReady.nil
            go_simp
            refine Calls.mono HPM.out ?_
            rintro e w5 ⟨sv, ss, T2, rfl, t1, o5, G5⟩
            refine hK _ _ ?_
            clear hK
            obtain ⟨ps, cs, rfl⟩ := own_sliceM o5
            have z5 := G5.off.size
            have P5 := hP.off2 G5.off (by omega) (by omega)
            have R5 := hR.off2 G5.off (by omega) (by omega)
            have ho5 := own_off2 G.book ho G5.off
            have hos5 : ∀ q ∈ A, w5.ownsRow (w.heap.size + 2) 9 1 q.2 q.1.sides.length (txC q.1.sides) := fun q hq => own_off2 G.book (hos q hq) G5.off
            have c5 : w5.cell? ⟨w.heap.size + 1, 1, none⟩ = some (.slice pv A.length cv) := P5.cell rfl
            refine wpAny_ready (rs := [5]) (by kernel_rfl) (by simp) ?_
            refine AllReady.cons rfl (fun K hK => ?_) AllReady.nil
            go_simp
            refine hK _ _ ?_
            clear hK
            have c6 : (w5.alloc (.cells #[.int .i64 (r : Nat), .string m.key, .string m.dat, .slice ps ss.length cs] 80)).cell? ⟨w.heap.size + 1, 1, none⟩ = some (.slice pv A.length cv) := (P5.alloc _).cell rfl
            refine wpAny_ready (rs := [6]) (by kernel_rfl) (by simp) ?_
            refine AllReady.cons rfl (fun K hK => ?_) AllReady.nil
            refine step_ifM rfl ?_
            refine wp_append_own _ (.tmp 46) (.tmp 50) 34 rfl (w.heap.size + 2) 80 iP (.agg #[.int .i64 0, .string ⟨#[]⟩, .string ⟨#[]⟩, .slice none 0 0]) 4 64 Tryz.underlying34 hi hi0 hi1 hi2 rfl (by decide) (.slice pv A.length cv) A.length (ptC A) rfl (ho5.alloc _) ⟨w5.heap.size, 0, none⟩ 1 1 [.int .i64 (r : Nat), .string m.key, .string m.dat, .slice ps ss.length cs] rfl rfl ?_ ?_ ?_ ?_ ?_ ?_
            · intro j u hj
              rw [Addr.add_mid, Nat.zero_add]
              exact (blk_new w5 w5.heap.size _ _ rfl).cell (by simpa using hj)
            · intro u hu
              simp at hu
              rcases hu with rfl | rfl | rfl | rfl <;> rfl
            · unfold maxLen; omega
            · omega
            · simp; omega
            intro v' w7 hown' hgrow _
            obtain ⟨pv', cv', rfl⟩ := own_sliceM hown'
            have zg := hgrow.size
            simp at zg
            have P7 : Blk w7 (w.heap.size + 1) #[.int .i64 l.length, .slice pv A.length cv] 36 := (hgrow.block (w.heap.size + 1) (by simp; omega) (fun e => by have := (ho5.lt _ e.symm).1; omega)).trans (P5.alloc _)
            have R7 : Blk w7 w.heap.size #[.int .i64 0, .slice none 0 0] 36 := (hgrow.block w.heap.size (by simp; omega) (fun e => by have := (ho5.lt _ e.symm).1; omega)).trans (R5.alloc _)
            have hos7 : ∀ q ∈ A, w7.ownsRow (w.heap.size + 2) 9 1 q.2 q.1.sides.length (txC q.1.sides) := fun q hq => (World.ownsRow.alloc (hos5 q hq) _).kept hgrow (own_twoM ((hos5 q hq).alloc (.cells #[.int .i64 (r : Nat), .string m.key, .string m.dat, .slice ps ss.length cs] 80)) (ho5.alloc _) (by decide))
            have o7 : w7.ownsRow (w.heap.size + 2) 9 1 (.slice ps ss.length cs) ss.length (txC ss) := (World.ownsRow.alloc (ownsRow_weakM o5 (by omega)) _).kept hgrow (own_twoM ((ownsRow_weakM o5 (base2 := w.heap.size + 2) (by omega)).alloc (.cells #[.int .i64 (r : Nat), .string m.key, .string m.dat, .slice ps ss.length cs] 80)) (ho5.alloc _) (by decide))
            have G6 := (G.trans G5).below ((Below.refl w5.heap.size w5).alloc (Nat.le_refl _) (.cells #[.int .i64 (r : Nat), .string m.key, .string m.dat, .slice ps ss.length cs] 80))
            have G7 := G6.grown (ho5.alloc _) (by decide) (by decide) (by omega) hgrow
            have f7 : w7.frozen? ⟨w.heap.size + 1, 1, none⟩ = false := P7.frozen
            have c7 : w7.cell? ⟨w.heap.size + 1, 1, none⟩ = some (.slice pv A.length cv) := P7.cell rfl
            refine hK _ _ ?_
            clear hK
            refine wpAny_ready (rs := [7]) (by kernel_rfl) (by simp) ?_
            refine AllReady.cons rfl (fun K hK => ?_) AllReady.nil
            go_simp
            refine hK _ _ ?_
            clear hK
            refine wpAny_ready (rs := [8]) (by kernel_rfl) (by simp) ?_
            refine AllReady.cons rfl (fun K hK => ?_) AllReady.nil
            go_simp
            refine hK _ _ ?_
            clear hK
            refine wpAny_done (by kernel_rfl) ?_ _
            go_wp2
            go_meet
            have e1 : (A ++ [((⟨(r : Nat), m.key, m.dat, ss⟩ : Pt), (.slice ps ss.length cs : Value))]).length = A.length + 1 := by simp
            refine ⟨A ++ [(⟨(r : Nat), m.key, m.dat, ss⟩, .slice ps ss.length cs)], T2, pv', cv', ?_, ?_, ?_, ?_, ?_, ?_, ?_⟩
            · refine ⟨A.map Prod.fst, [⟨(r : Nat), m.key, m.dat, ss⟩], by simp, AOk.ext G5.ext HAO.out, fun h0 => by omega, fun _ => ⟨_, rfl, rfl, m, HM.out, rfl, rfl, t1⟩⟩
            · rw [e1]; exact P7.set 1 _
            · exact R7.setOther (by simp) _
            · rw [e1, ptC_snoc]; exact own_setM hown' (by omega)
            · intro q hq
              rcases List.mem_append.1 hq with hq | hq
              · exact own_setM (hos7 q hq) (by omega)
              · simp only [List.mem_singleton] at hq; subst hq; exact own_setM o7 (by omega)
            · exact (G7.set (by omega) (by omega) (by omega) (by omega) (by omega)).le (by omega)
            · simp [World.setCell]; omega
          · go_simp
            refine Calls.mono HPM.out ?_
            rintro e w5 ⟨sv, ss, T2, rfl, t1, o5, G5⟩
            refine hK _ _ ?_
            clear hK
            obtain ⟨ps, cs, rfl⟩ := own_sliceM o5
            have z5 := G5.off.size
            have P5 := hP.off2 G5.off (by omega) (by omega)
            have R5 := hR.off2 G5.off (by omega) (by omega)
            have ho5 := own_off2 G.book ho G5.off
            have hos5 : ∀ q ∈ A, w5.ownsRow (w.heap.size + 2) 9 1 q.2 q.1.sides.length (txC q.1.sides) := fun q hq => own_off2 G.book (hos q hq) G5.off
            have c5 : w5.cell? ⟨w.heap.size + 1, 1, none⟩ = some (.slice pv A.length cv) := P5.cell rfl
            refine wpAny_ready (rs := [1, 5]) (by kernel_rfl) (by simp) ?_
            refine AllReady.cons rfl (fun K hK => ?_) (AllReady.cons rfl (fun K hK => ?_) AllReady.nil)
            · go_simp
              refine hK _ _ ?_
              clear hK
              refine wpAny_ready (rs := [5]) (by kernel_rfl) (by simp) ?_
              refine AllReady.cons rfl (fun K hK => ?_) AllReady.nil
              go_simp
              refine hK _ _ ?_
              clear hK
              have c6 : (w5.alloc (.cells #[.int .i64 (r : Nat), .string m.key, .string m.dat, .slice ps ss.length cs] 80)).cell? ⟨w.heap.size + 1, 1, none⟩ = some (.slice pv A.length cv) := (P5.alloc _).cell rfl
              refine wpAny_ready (rs := [6]) (by kernel_rfl) (by simp) ?_
              refine AllReady.cons rfl (fun K hK => ?_) AllReady.nil
              refine step_ifM rfl ?_
              refine wp_append_own _ (.tmp 46) (.tmp 50) 34 rfl (w.heap.size + 2) 80 iP (.agg #[.int .i64 0, .string ⟨#[]⟩, .string ⟨#[]⟩, .slice none 0 0]) 4 64 Tryz.underlying34 hi hi0 hi1 hi2 rfl (by decide) (.slice pv A.length cv) A.length (ptC A) rfl (ho5.alloc _) ⟨w5.heap.size, 0, none⟩ 1 1 [.int .i64 (r : Nat), .string m.key, .string m.dat, .slice ps ss.length cs] rfl rfl ?_ ?_ ?_ ?_ ?_ ?_
              · intro j u hj
                rw [Addr.add_mid, Nat.zero_add]
                exact (blk_new w5 w5.heap.size _ _ rfl).cell (by simpa using hj)
              · intro u hu
                simp at hu
                rcases hu with rfl | rfl | rfl | rfl <;> rfl
              · unfold maxLen; omega
              · omega
              · simp; omega
              intro v' w7 hown' hgrow _
              obtain ⟨pv', cv', rfl⟩ := own_sliceM hown'
              have zg := hgrow.size
              simp at zg
              have P7 : Blk w7 (w.heap.size + 1) #[.int .i64 l.length, .slice pv A.length cv] 36 := (hgrow.block (w.heap.size + 1) (by simp; omega) (fun e => by have := (ho5.lt _ e.symm).1; omega)).trans (P5.alloc _)
              have R7 : Blk w7 w.heap.size #[.int .i64 0, .slice none 0 0] 36 := (hgrow.block w.heap.size (by simp; omega) (fun e => by have := (ho5.lt _ e.symm).1; omega)).trans (R5.alloc _)
              have hos7 : ∀ q ∈ A, w7.ownsRow (w.heap.size + 2) 9 1 q.2 q.1.sides.length (txC q.1.sides) := fun q hq => (World.ownsRow.alloc (hos5 q hq) _).kept hgrow (own_twoM ((hos5 q hq).alloc (.cells #[.int .i64 (r : Nat), .string m.key, .string m.dat, .slice ps ss.length cs] 80)) (ho5.alloc _) (by decide))
              have o7 : w7.ownsRow (w.heap.size + 2) 9 1 (.slice ps ss.length cs) ss.length (txC ss) := (World.ownsRow.alloc (ownsRow_weakM o5 (by omega)) _).kept hgrow (own_twoM ((ownsRow_weakM o5 (base2 := w.heap.size + 2) (by omega)).alloc (.cells #[.int .i64 (r : Nat), .string m.key, .string m.dat, .slice ps ss.length cs] 80)) (ho5.alloc _) (by decide))
              have G6 := (G.trans G5).below ((Below.refl w5.heap.size w5).alloc (Nat.le_refl _) (.cells #[.int .i64 (r : Nat), .string m.key, .string m.dat, .slice ps ss.length cs] 80))
              have G7 := G6.grown (ho5.alloc _) (by decide) (by decide) (by omega) hgrow
              have f7 : w7.frozen? ⟨w.heap.size + 1, 1, none⟩ = false := P7.frozen
              have c7 : w7.cell? ⟨w.heap.size + 1, 1, none⟩ = some (.slice pv A.length cv) := P7.cell rfl
              refine hK _ _ ?_
              clear hK
              refine wpAny_ready (rs := [7]) (by kernel_rfl) (by simp) ?_
              refine AllReady.cons rfl (fun K hK => ?_) AllReady.nil
              go_simp
              refine hK _ _ ?_
              clear hK
              refine wpAny_ready (rs := [8]) (by kernel_rfl) (by simp) ?_
              refine AllReady.cons rfl (fun K hK => ?_) AllReady.nil
              go_simp
              refine hK _ _ ?_
              clear hK
              refine wpAny_done (by kernel_rfl) ?_ _
              go_wp2
              go_meet
              have e1 : (A ++ [((⟨(r : Nat), m.key, m.dat, ss⟩ : Pt), (.slice ps ss.length cs : Value))]).length = A.length + 1 := by simp
              refine ⟨A ++ [(⟨(r : Nat), m.key, m.dat, ss⟩, .slice ps ss.length cs)], T2, pv', cv', ?_, ?_, ?_, ?_, ?_, ?_, ?_⟩
              · refine ⟨A.map Prod.fst, [⟨(r : Nat), m.key, m.dat, ss⟩], by simp, AOk.ext G5.ext HAO.out, fun h0 => by omega, fun _ => ⟨_, rfl, rfl, m, HM.out, rfl, rfl, t1⟩⟩
              · rw [e1]; exact P7.set 1 _
              · exact R7.setOther (by simp) _
              · rw [e1, ptC_snoc]; exact own_setM hown' (by omega)
              · intro q hq
                rcases List.mem_append.1 hq with hq | hq
                · exact own_setM (hos7 q hq) (by omega)
                · simp only [List.mem_singleton] at hq; subst hq; exact own_setM o7 (by omega)
              · exact (G7.set (by omega) (by omega) (by omega) (by omega) (by omega)).le (by omega)
              · simp [World.setCell]; omega
            · go_simp
              refine hK _ _ ?_
              clear hK
              have c6 : (w5.alloc (.cells #[.int .i64 (r : Nat), .string m.key, .string m.dat, .slice ps ss.length cs] 80)).cell? ⟨w.heap.size + 1, 1, none⟩ = some (.slice pv A.length cv) := (P5.alloc _).cell rfl
              refine wpAny_ready (rs := [1]) (by kernel_rfl) (by simp) ?_
              refine AllReady.cons rfl (fun K hK => ?_) AllReady.nil
              go_simp
              refine hK _ _ ?_
              clear hK
              refine wpAny_ready (rs := [6]) (by kernel_rfl) (by simp) ?_
              refine AllReady.cons rfl (fun K hK => ?_) AllReady.nil
              refine step_ifM rfl ?_
              refine wp_append_own _ (.tmp 46) (.tmp 50) 34 rfl (w.heap.size + 2) 80 iP (.agg #[.int .i64 0, .string ⟨#[]⟩, .string ⟨#[]⟩, .slice none 0 0]) 4 64 Tryz.underlying34 hi hi0 hi1 hi2 rfl (by decide) (.slice pv A.length cv) A.length (ptC A) rfl (ho5.alloc _) ⟨w5.heap.size, 0, none⟩ 1 1 [.int .i64 (r : Nat), .string m.key, .string m.dat, .slice ps ss.length cs] rfl rfl ?_ ?_ ?_ ?_ ?_ ?_
              · intro j u hj
                rw [Addr.add_mid, Nat.zero_add]
                exact (blk_new w5 w5.heap.size _ _ rfl).cell (by simpa using hj)
              · intro u hu
                simp at hu
                rcases hu with rfl | rfl | rfl | rfl <;> rfl
              · unfold maxLen; omega
              · omega
              · simp; omega
              intro v' w7 hown' hgrow _
              obtain ⟨pv', cv', rfl⟩ := own_sliceM hown'
              have zg := hgrow.size
              simp at zg
              have P7 : Blk w7 (w.heap.size + 1) #[.int .i64 l.length, .slice pv A.length cv] 36 := (hgrow.block (w.heap.size + 1) (by simp; omega) (fun e => by have := (ho5.lt _ e.symm).1; omega)).trans (P5.alloc _)
              have R7 : Blk w7 w.heap.size #[.int .i64 0, .slice none 0 0] 36 := (hgrow.block w.heap.size (by simp; omega) (fun e => by have := (ho5.lt _ e.symm).1; omega)).trans (R5.alloc _)
              have hos7 : ∀ q ∈ A, w7.ownsRow (w.heap.size + 2) 9 1 q.2 q.1.sides.length (txC q.1.sides) := fun q hq => (World.ownsRow.alloc (hos5 q hq) _).kept hgrow (own_twoM ((hos5 q hq).alloc (.cells #[.int .i64 (r : Nat), .string m.key, .string m.dat, .slice ps ss.length cs] 80)) (ho5.alloc _) (by decide))
              have o7 : w7.ownsRow (w.heap.size + 2) 9 1 (.slice ps ss.length cs) ss.length (txC ss) := (World.ownsRow.alloc (ownsRow_weakM o5 (by omega)) _).kept hgrow (own_twoM ((ownsRow_weakM o5 (base2 := w.heap.size + 2) (by omega)).alloc (.cells #[.int .i64 (r : Nat), .string m.key, .string m.dat, .slice ps ss.length cs] 80)) (ho5.alloc _) (by decide))
              have G6 := (G.trans G5).below ((Below.refl w5.heap.size w5).alloc (Nat.le_refl _) (.cells #[.int .i64 (r : Nat), .string m.key, .string m.dat, .slice ps ss.length cs] 80))
              have G7 := G6.grown (ho5.alloc _) (by decide) (by decide) (by omega) hgrow
              have f7 : w7.frozen? ⟨w.heap.size + 1, 1, none⟩ = false := P7.frozen
              have c7 : w7.cell? ⟨w.heap.size + 1, 1, none⟩ = some (.slice pv A.length cv) := P7.cell rfl
              refine hK _ _ ?_
              clear hK
              refine wpAny_ready (rs := [7]) (by kernel_rfl) (by simp) ?_
              refine AllReady.cons rfl (fun K hK => ?_) AllReady.nil
              go_simp
              refine hK _ _ ?_
              clear hK
              refine wpAny_ready (rs := [8]) (by kernel_rfl) (by simp) ?_
              refine AllReady.cons rfl (fun K hK => ?_) AllReady.nil
              go_simp
              refine hK _ _ ?_
              clear hK
              refine wpAny_done (by kernel_rfl) ?_ _
              go_wp2
              go_meet
              have e1 : (A ++ [((⟨(r : Nat), m.key, m.dat, ss⟩ : Pt), (.slice ps ss.length cs : Value))]).length = A.length + 1 := by simp
              refine ⟨A ++ [(⟨(r : Nat), m.key, m.dat, ss⟩, .slice ps ss.length cs)], T2, pv', cv', ?_, ?_, ?_, ?_, ?_, ?_, ?_⟩
              · refine ⟨A.map Prod.fst, [⟨(r : Nat), m.key, m.dat, ss⟩], by simp, AOk.ext G5.ext HAO.out, fun h0 => by omega, fun _ => ⟨_, rfl, rfl, m, HM.out, rfl, rfl, t1⟩⟩
              · rw [e1]; exact P7.set 1 _
              · exact R7.setOther (by simp) _
              · rw [e1, ptC_snoc]; exact own_setM hown' (by omega)
              · intro q hq
                rcases List.mem_append.1 hq with hq | hq
                · exact own_setM (hos7 q hq) (by omega)
                · simp only [List.mem_singleton] at hq; subst hq; exact own_setM o7 (by omega)
              · exact (G7.set (by omega) (by omega) (by omega) (by omega) (by omega)).le (by omega)
              · simp [World.setCell]; omega
        · have hd0 : decide ((r : Int) < (l.length : Int)) = false := by simp only [decide_eq_false_iff_not]; omega
          go_wp2
          go_meet
          exact ⟨A, T1, pv, cv, ⟨A.map Prod.fst, [], by simp, HAO.out, fun _ => rfl, fun h0 => by omega⟩, hP, hR, ho, hos, G.le (by omega), hz5⟩
      case rest =>
        obtain ⟨L, T2, pv2, cv2, hAB, hP2, hR2, ho2, hos2, G2, hz6⟩ := hcut
        rename World => wd
        have HAB : Hid _ := hAB
        clear hAB
        obtain ⟨W8, hW8, R8, hoth8, Z8, ho8⟩ := setRow_named hR2 #[.int .i64 l.length, .slice pv2 L.length cv2]
        have c70 : wd.cell? ⟨w.heap.size + 1, 0, none⟩ = some (.int .i64 l.length) := hP2.cell rfl
        have c71 : wd.cell? ⟨w.heap.size + 1, 1, none⟩ = some (.slice pv2 L.length cv2) := hP2.cell rfl
        go_wp2_with ((with_reducible refine st_row (ty := 36) hR2 (infoPf2 _ _) (pfSame _ _ _ _) (pfOne _ _ _ _) hW8 ?_ ?_ ?_); rfl; rfl)
        refine bodyPost_ret (v := .agg #[.int .i64 l.length, .slice pv2 L.length cv2]) (prove_results R8 rfl) rfl ?_
        refine ⟨r, L, T2, pv2, cv2, HSP.out, ⟨fun h0 => absurd (hh.symm.trans h0) (by decide), fun _ => HAB.out⟩, rfl, ?_, fun q hq => ?_, ?_⟩
        · rw [← hW8]; exact ownsRow_weakM (own_rowM ho2 (by omega)) (by omega)
        · rw [← hW8]; exact ownsRow_weakM (own_rowM (hos2 q hq) (by omega)) (by omega)
        · rw [← hW8]; exact G2.row (by omega) (by omega) (by omega) (by omega) (by omega)
  · obtain ⟨m, hm, hmk⟩ : ∃ m, l[r]? = some m ∧ m.key = key := by
      unfold hasAt at hh
      cases e : l[r]? with
      | none => rw [e] at hh; cases hh
      | some m => rw [e] at hh; exact ⟨m, rfl, of_decide_eq_true hh⟩
    have b34 := chain B3 b4
    have HP : Hid _ := path_mk k r (.slice a l.length cap) dv l ls m w4 (hX.below b34) (hr.below b34) hl hm (hz m (List.mem_of_getElem? hm)) (hL.below b34) hll hsz (h.below b34) (by omega)
    have HM : Hid _ := hm
    clear hm hmk
    have HH : Hid _ := h
    have hlts := h.lts
    have z4 := b4.size
    have z3 := B3.size
    go_wp2_with fail
    refine Calls.mono HP.out ?_
    rintro e w5 ⟨sv, ss, T1, rfl, t1, o5, G5⟩
    obtain ⟨ps, cs, rfl⟩ := own_sliceM o5
    have z5 := G5.off.size
    have P5 : Blk w5 (w.heap.size + 1) #[.int .i64 l.length, .slice none 0 0] 36 := (X3.below b4).off2 G5.off (by omega) (by omega)
    have R5 : Blk w5 w.heap.size #[.int .i64 0, .slice none 0 0] 36 := (Y3.below b4).off2 G5.off (by omega) (by omega)
    obtain ⟨W6, hW6, Q6, P6, R6, B6, Z6⟩ : ∃ W6, w5.alloc (.cells #[.int .i64 r, .string m.key, .string m.dat, .slice ps ss.length cs] 80) = W6 ∧ Blk W6 w5.heap.size #[.int .i64 r, .string m.key, .string m.dat, .slice ps ss.length cs] 80 ∧ Blk W6 (w.heap.size + 1) #[.int .i64 l.length, .slice none 0 0] 36 ∧ Blk W6 w.heap.size #[.int .i64 0, .slice none 0 0] 36 ∧ Below w5.heap.size w5 W6 ∧ W6.heap.size = w5.heap.size + 1 :=
      ⟨_, rfl, blk_new _ _ _ _ rfl, P5.alloc _, R5.alloc _, by go_grown, by simp⟩
    obtain ⟨W7, hW7, P7, Q7, R7, O7, Z7⟩ : ∃ W7, W6.setCell ⟨w.heap.size + 1, 1, none⟩ (.slice (some ⟨w5.heap.size, 0, none⟩) 1 1) = W7 ∧ Blk W7 (w.heap.size + 1) #[.int .i64 l.length, .slice (some ⟨w5.heap.size, 0, none⟩) 1 1] 36 ∧ Blk W7 w5.heap.size #[.int .i64 r, .string m.key, .string m.dat, .slice ps ss.length cs] 80 ∧ Blk W7 w.heap.size #[.int .i64 0, .slice none 0 0] 36 ∧ Off (w.heap.size + 1) W6 W7 ∧ W7.heap.size = W6.heap.size :=
      ⟨_, rfl, P6.set 1 _, Q6.setOther (by simp; omega) _, R6.setOther (by simp) _, Off.setCell (Off.refl _ _) (p := ⟨w.heap.size + 1, 1, none⟩) rfl _, by simp [World.setCell]⟩
    obtain ⟨W8, hW8, R8, hoth8, Z8, ho8⟩ := setRow_named R7 #[.int .i64 l.length, .slice (some ⟨w5.heap.size, 0, none⟩) 1 1]
    have f6 : W6.frozen? ⟨w.heap.size + 1, 1, none⟩ = false := P6.frozen
    have c6 : W6.cell? ⟨w.heap.size + 1, 1, none⟩ = some (.slice none 0 0) := P6.cell rfl
    have c70 : W7.cell? ⟨w.heap.size + 1, 0, none⟩ = some (.int .i64 l.length) := P7.cell rfl
    have c71 : W7.cell? ⟨w.heap.size + 1, 1, none⟩ = some (.slice (some ⟨w5.heap.size, 0, none⟩) 1 1) := P7.cell rfl
    go_wp2_with ((with_reducible refine st_row (ty := 36) R7 (infoPf2 _ _) (pfSame _ _ _ _) (pfOne _ _ _ _) hW8 ?_ ?_ ?_); rfl; rfl)
    refine bodyPost_ret (v := .agg #[.int .i64 l.length, .slice (some ⟨w5.heap.size, 0, none⟩) 1 1]) (prove_results R8 rfl) rfl ?_
    have G0 : Grew x y p b T S w 0 T w4 := (Grew.refl HH.out).below b34
    have G6 := (((G0.trans G5).below B6).le (d := l.length) (by omega))
    have G7 : Grew x y p b T S w l.length T1 W7 := by rw [← hW7]; exact G6.set (by omega) (by omega) (by omega) (by omega) (by omega)
    have G8 : Grew x y p b T S w l.length T1 W8 := by rw [← hW8]; exact G7.row (by omega) (by omega) (by omega) (by omega) (by omega)
    have o6 := own_below o5 B6
    have o7 := own_setM o6 (k := w.heap.size + 1) (o := 1) (by omega) (u := .slice (some ⟨w5.heap.size, 0, none⟩) 1 1)
    rw [hW7] at o7
    have o8 := own_rowM o7 (k := w.heap.size) (by omega) (cs := #[.int .i64 l.length, .slice (some ⟨w5.heap.size, 0, none⟩) 1 1])
    rw [hW8] at o8
    refine ⟨r, [(⟨r, m.key, m.dat, ss⟩, .slice ps ss.length cs)], T1, some ⟨w5.heap.size, 0, none⟩, 1, HSP.out, ⟨fun _ => ⟨_, rfl, rfl, m, HM.out, rfl, rfl, t1⟩, fun h0 => by rw [hh] at h0; cases h0⟩, rfl, own_one (blk_row Q7 hW8 (by omega)) (by omega), ?_, G8.le (by omega)⟩
    intro q hq
    simp only [List.mem_singleton] at hq
    subst hq
    exact ownsRow_weakM o8 (by omega)
end Go.Proofs.YtpcafjbebhcilaaGreat
