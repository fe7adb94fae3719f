/- The house: New. -/
import Derived.Test.YtpekfpfhonechaaGreatHw39
import Derived.Deep.DeepCutAuto
import Derived.Deep.CutBlock
namespace Go.Proofs.YtpekfpfhonechaaGreat
open Go.RowKit
set_option linter.unusedSimpArgs false
set_option linter.unusedVariables false

theorem wp_append_at {P : Program} {w : World} {o : Oper} {a : Act} {K : Act → World → Prop} {Q : Exit → Act → World → Prop} (s x : Operand) (t : TypeId)
    (ho : o.op = .call { callee := .builtin .append, args := #[s, x], argTypes := #[t, t] })
    (base : Nat) (e : TypeId) (i : TypeInfo) (z : Value) (size bytes : Nat) (ht : P.underlying t = some (.slice e)) (hi : P.info? e = some i) (hz : i.zero = some z)
    (hsize : i.size = size) (hby : i.bytes = bytes) (hzs : z.cells.size = size) (hsz : 0 < size)
    (v : Value) (n : Nat) (xs : List Value) (hs : a.eval s = v) (hown : w.ownsRow base e size v n xs)
    (ad : Addr) (m c : Nat) (news : List Value) (hx : a.eval x = .slice (some ad) m c) (hl : news.length = m * size) (hnews : ∀ j u, news[j]? = some u → w.cell? (ad.add j) = some u) (h1 : ∀ u ∈ news, u.oneCell' = true)
    (h63 : n + m ≤ maxLen) (hbytes : (n + m) * bytes ≤ 140737488355328) (hbase : base ≤ w.heap.size)
    (h : ∀ v' w', w'.ownsRow base e size v' (n + m) (xs ++ news) → w.grownBy w' v.ownBlock → (v'.ownBlock = v.ownBlock ∨ v'.ownBlock = some w.heap.size) → K (a.put o.dst v') w') : o.wp P a w K Q := by
  obtain ⟨v', w', hr, h2, h3, h4, h5⟩ := run_append_own_at (P := P) w base t o.type e i z size bytes ht hi hz hsize hby hzs hsz v n xs hown ad m c news hl hnews h1 h63 hbytes hbase
  unfold Oper.wp execOp
  simp only [ho, resolve, invoke, builtin, Sem.run_bind, Sem.run_pure, Result.andThen_ok, List.map_toArray, List.map_cons, List.map_nil, hs, hx, hr]
  exact h v' w' h2 h3 h5
theorem infoPB : (Tryz.prog.info? 72).map (fun i => (i.zero, i.size, i.bytes)) = some (some (.pointer none), 1, 8) := by kernel_rfl
theorem infoPS : (Tryz.prog.info? 57).map (fun i => (i.zero, i.size, i.bytes)) = some (some (.pointer none), 1, 8) := by kernel_rfl
def Hs.new (c g : Nat) : Hs := ⟨g, List.replicate c Led.Kt.zero, List.replicate g ⟨1, []⟩, List.replicate g none, 0⟩
def ptrB (b : Nat) : Value := .pointer (some ⟨b, 0, none⟩)
/-- A house whose first k markets are there. -/
structure Hn (w0 : World) (k g : Nat) (p pl bl qs : Nat) (l : Ks) (wr : World) (mv : Value) (bs : List Nat) : Prop where
  len : bs.length = k
  blk : Blk wr p (hsC l.length pl mv (.slice (some ⟨qs, 0, none⟩) g g) 0) 62
  lg : Led.Lg wr pl bl g l
  row : Blk wr qs ((List.replicate g (none : Option (Nat × Nat × Nat))).map ptrS).toArray 57
  own : wr.ownsRow w0.heap.size 72 1 mv k (bs.map ptrB)
  bk : ∀ b ∈ bs, Cal.Bk wr w0.heap.size b (.slice none 0 0) ⟨1, []⟩
  nd : bs.Nodup
  b0 : w0.heap.size ≤ p ∧ w0.heap.size ≤ bl ∧ w0.heap.size ≤ qs
  bel : Below w0.heap.size w0 wr
theorem Hn.whole {w0 : World} {g p pl bl qs : Nat} {l : Ks} {wr : World} {mv : Value} {bs : List Nat} (h : Hn w0 g g p pl bl qs l wr mv bs) (hg : 0 < g) :
    ∃ X, X.p = p ∧ Hm wr w0.heap.size X ⟨g, l, List.replicate g ⟨1, []⟩, List.replicate g none, 0⟩ := by
  rcases h.own.2 with ⟨rfl, h2⟩ | ⟨q, cap, cur, rfl, hb, hh, hc, hm, hs, ht⟩
  · omega
  refine ⟨⟨p, pl, bl, q, cap, qs, bs.map fun b => (b, .slice none 0 0), List.replicate g none⟩, rfl, ⟨⟨h.blk, h.lg⟩, ⟨by simpa using h.len, by simp, ⟨cur, hh, fun i b hbi => ?_⟩, fun i b B hbi hBi => ?_, fun i j b c hbi hcj hij => ?_⟩, ⟨by simp, by simp, h.row, fun i => ?_, fun i a x ha => ?_, fun i j a c ha => ?_⟩, h.b0, by simp, fun i x hx => ?_⟩⟩
  · rw [List.getElem?_map] at hbi
    cases hbs : bs[i]? with
    | none => rw [hbs] at hbi; cases hbi
    | some b' =>
      rw [hbs] at hbi
      simp only [Option.map_some, Option.some.injEq] at hbi
      subst hbi
      have hi := (List.getElem?_eq_some_iff.1 hbs).1
      have hcell := h.own.cellAt i (by rw [h.len] at hi; omega)
      rw [List.getElem?_map, hbs] at hcell
      have h5 : wr.cell? ⟨q, i, none⟩ = some (ptrB b') := hcell
      unfold World.cell? at h5
      rw [hh] at h5
      simpa [ptrB] using h5
  · rw [List.getElem?_map] at hbi
    cases hbs : bs[i]? with
    | none => rw [hbs] at hbi; cases hbi
    | some b' =>
      rw [hbs] at hbi
      simp only [Option.map_some, Option.some.injEq] at hbi
      subst hbi
      rw [List.getElem?_replicate] at hBi
      split at hBi
      · cases hBi; exact h.bk b' (List.mem_of_getElem? hbs)
      · cases hBi
  · rw [List.getElem?_map] at hbi hcj
    cases hbs : bs[i]? with
    | none => rw [hbs] at hbi; cases hbi
    | some b' =>
      cases hcs : bs[j]? with
      | none => rw [hcs] at hcj; cases hcj
      | some c' =>
        rw [hbs] at hbi
        rw [hcs] at hcj
        simp only [Option.map_some, Option.some.injEq] at hbi hcj
        subst hbi hcj
        refine ⟨fun e => ?_, fun k hk => by cases hk⟩
        simp only at e
        subst e
        obtain ⟨i1, i2⟩ := List.getElem?_eq_some_iff.1 hbs
        obtain ⟨j1, j2⟩ := List.getElem?_eq_some_iff.1 hcs
        rcases Nat.lt_or_gt_of_ne hij with h6 | h6
        · exact List.pairwise_iff_getElem.1 h.nd i j i1 j1 h6 (i2.trans j2.symm)
        · exact List.pairwise_iff_getElem.1 h.nd j i j1 i1 h6 (j2.trans i2.symm)
  · rw [List.getElem?_replicate, List.getElem?_replicate]; split <;> simp
  · rw [List.getElem?_replicate] at ha; split at ha <;> cases ha
  · rw [List.getElem?_replicate] at ha; split at ha <;> cases ha
  · simp only [List.getElem?_replicate] at hx; split at hx <;> cases hx

set_option maxRecDepth 100000 in
set_option maxHeartbeats 4000000 in
theorem new_hs (c gg : Int) (w : World) (h1 : 1 ≤ c) (h2 : c ≤ 16) (h3 : 1 ≤ gg) (h4 : gg ≤ 4) : Calls Tryz.prog 14 #[.int .i64 c, .int .i64 gg] w fun e w' =>
    ∃ X, e = .returned (.tuple #[.pointer (some ⟨X.p, 0, none⟩), .int .i64 0]) ∧ Hm w' w.heap.size X (Hs.new c.toNat gg.toNat) ∧ Below w.heap.size w w' := by
  have HN : Hid _ := Led.new_ok c gg w h1 h2 h3 h4
  obtain ⟨k, rfl⟩ := Int.eq_ofNat_of_zero_le (show 0 ≤ c by omega)
  obtain ⟨g, rfl⟩ := Int.eq_ofNat_of_zero_le (show 0 ≤ gg by omega)
  rw [Int.toNat_natCast, Int.toNat_natCast] at *
  unfold Hs.new
  obtain ⟨l, hl⟩ : ∃ l, List.replicate k Led.Kt.zero = l := ⟨_, rfl⟩
  have hll : l.length = k := by rw [← hl]; simp
  rw [hl] at HN ⊢
  clear hl
  obtain ⟨i0, hi, hz0, hz1, hz2⟩ := info_parts infoPS
  obtain ⟨j0, hj, hy0, hy1, hy2⟩ := info_parts infoPB
  have hmk : ∀ W : World, (Instr.makeSlice 60 (.int .i64 (g : Int)) (.int .i64 (g : Int))).run Tryz.prog W = .ok (.slice (some ⟨W.heap.size, 0, none⟩) g g) (W.alloc (.cells ((List.replicate g (none : Option (Nat × Nat × Nat))).map ptrS).toArray 57)) := fun W => by
    have h := run_make (P := Tryz.prog) W 60 57 i0 _ Tryz.underlying60 hi hz0 .i64 .i64 (g : Int) (g : Int) (by omega) (by omega) (by rw [hz2]; omega) (by omega)
    rw [hz1, Int.toNat_natCast] at h
    have e : madeCells (Value.pointer none).cells (g * 1) = ((List.replicate g (none : Option (Nat × Nat × Nat))).map ptrS).toArray := by
      apply Array.ext_getElem?
      intro i
      unfold madeCells
      rw [Nat.mul_one, Array.getElem?_map, Array.getElem?_range]
      have er : ((List.replicate g (none : Option (Nat × Nat × Nat))).map ptrS).toArray[i]? = (if i < g then some none else none).map ptrS := by rw [List.getElem?_toArray, List.getElem?_map, List.getElem?_replicate]
      rw [er]
      split
      · simp only [Option.map_some]
        rw [show (Value.pointer none).cells = #[.pointer none] from rfl]
        simp [ptrS, Nat.mod_one]
      · rfl
    rw [e] at h
    exact h
  have HSL : Hid (∀ W : World, Blk (W.alloc (.cells ((List.replicate g (none : Option (Nat × Nat × Nat))).map ptrS).toArray 57)) W.heap.size ((List.replicate g (none : Option (Nat × Nat × Nat))).map ptrS).toArray 57) := fun W => blk_new _ _ _ _ rfl
  obtain ⟨SL, hSL⟩ : ∃ SL, ((List.replicate g (none : Option (Nat × Nat × Nat))).map ptrS).toArray = SL := ⟨_, rfl⟩
  have HSE : Hid _ := hSL
  rw [hSL] at hmk HSL
  clear hSL
  go_enter Tryz.func14, Tryz.ntmps14
  go_wp2_with fail
  refine Calls.mono HN.out ?_
  rintro e w1 ⟨pl, bl, rfl, L1, b1, hpl, hbl⟩
  obtain ⟨W2, hW2, X2, B2, z2⟩ : ∃ W2, ((w1.alloc (.cells SL 57)).alloc (.cells #[.int .i64 k, .pointer (some ⟨pl, 0, none⟩), .slice none 0 0, .slice (some ⟨w1.heap.size, 0, none⟩) g g, .int .i64 0] 62)) = W2 ∧ Blk W2 (w1.heap.size + 1) #[.int .i64 k, .pointer (some ⟨pl, 0, none⟩), .slice none 0 0, .slice (some ⟨w1.heap.size, 0, none⟩) g g, .int .i64 0] 62 ∧ Below w1.heap.size w1 W2 ∧ Blk W2 w1.heap.size SL 57 :=
    ⟨_, rfl, blk_new _ _ _ _ (by simp), by go_grown, (HSL.out w1).alloc _⟩
  have hz1w := b1.size
  have HI : Hid (∃ mv bs, Hn w 0 g (w1.heap.size + 1) pl bl w1.heap.size l W2 mv bs) := ⟨.slice none 0 0, [], ⟨rfl, by rw [hll]; exact X2, L1.below B2, by rw [HSE.out]; exact z2, World.ownsRow_nil _ _ _ _, (fun b hb => by cases hb), List.nodup_nil, ⟨by omega, hbl, hz1w⟩, b1.trans (B2.mono hz1w)⟩⟩
  clear X2 B2 z2 L1 b1 HSL HN HSE
  go_wp2_with fail
  go_loopw [25] (fun iv wr => ∃ i : Nat, i ≤ g ∧ iv = .int .i64 i ∧ Hid (∃ mv bs, Hn w i g (w1.heap.size + 1) pl bl w1.heap.size l wr mv bs)) (fun iv _ => g - (intOf iv).toNat)
  case atStart => exact ⟨0, Nat.zero_le _, rfl, HI⟩
  case round =>
    clear HI hW2
    obtain ⟨i, hi', rfl, HR⟩ := hrel
    by_cases hlt : i < g
    · have hd : decide ((i : Int) < (g : Int)) = true := by simp only [decide_eq_true_eq]; omega
      obtain ⟨mv, bs, hn⟩ := HR.out
      have c2 : wr.cell? ⟨w1.heap.size + 1, 2, none⟩ = some mv := hn.blk.cell rfl
      have fr : ∀ wx : World, (∃ cs, Blk wx (w1.heap.size + 1) cs 62) → wx.frozen? ⟨w1.heap.size + 1, 2, none⟩ = false := fun wx ⟨cs, h⟩ => h.frozen
      have HHn : Hid _ := hn
      have HNC : Hid _ := Cal.new_calls wr.drew
      have hilt : i < 4 := by omega
      clear hn HR
      go_upto_region 7 with fail
      refine wp_region_held_drew (S := (fun _ => True)) (by kernel_rfl) trivial (fun hS => ?_)
      refine tkG (i := 0) (v := .pointer (some ⟨w1.heap.size + 1, 0, none⟩)) rfl hS ?_
      refine tkG (i := 1) (v := .pointer (some ⟨w1.heap.size + 1, 0, none⟩)) rfl hS ?_
      refine tkG (i := 2) (v := .pointer (some ⟨w1.heap.size + 1, 0, none⟩)) rfl hS ?_
      refine tkG (i := 3) (v := .pointer (some ⟨w1.heap.size + 1, 2, none⟩)) rfl hS ?_
      refine wpAnyH_ready (rs := [4, 5]) (by kernel_rfl) (by simp) ?_
      refine AllReadyH.cons rfl (fun K hK => ?_) (AllReadyH.cons rfl (fun K hK => ?_) AllReadyH.nil)
      · go_simp
        refine hK.out _ _ trivial (fun hS => ?_)
        clear hK
        refine wpAnyH_ready (rs := [5]) (by kernel_rfl) (by simp) ?_
        refine AllReadyH.cons rfl (fun K hK => ?_) AllReadyH.nil
        go_simp
        refine Calls.mono HNC.out ?_
        rintro e w2 ⟨rfl, K2, b2⟩
        refine hK.out _ _ trivial (fun hS => ?_)
        clear hK
        have b2' : Below wr.heap.size wr w2 := ⟨b2.os, b2.tape, b2.output, b2.size, b2.block⟩
        have C2 : Chg (fun q => mv.ownBlock = some q) wr w2 := Chg.of_below b2'
        have O3 : (w2.alloc (.cells #[.pointer (some ⟨wr.heap.size, 0, none⟩)] 72)).ownsRow w.heap.size 72 1 mv i (bs.map ptrB) := World.ownsRow.alloc (own_chg (D := fun q => wr.heap.size ≤ q) HHn.out.own (Chg.of_below b2') (fun q hq h => by have := (HHn.out.own.lt q hq).2; omega)) _
        refine wpAnyH_ready (rs := [6]) (by kernel_rfl) (by simp) ?_
        refine AllReadyH.cons rfl (fun K hK => ?_) AllReadyH.nil
        go_simp
        refine hK.out _ _ trivial (fun hS => ?_)
        clear hK
        refine wpAnyH_ready (rs := [7]) (by kernel_rfl) (by simp) ?_
        refine AllReadyH.cons rfl (fun K hK => ?_) AllReadyH.nil
        refine step_ifC rfl ?_
        refine wp_append_at (.tmp 31) (.tmp 33) 59 rfl w.heap.size 72 j0 (.pointer none) 1 8 Tryz.underlying59 hj hy0 hy1 hy2 rfl (by decide) mv i (bs.map ptrB) (by kernel_rfl) O3 ⟨w2.heap.size, 0, none⟩ 1 1 [ptrB wr.heap.size] (by kernel_rfl) rfl (fun j u hj => ?_) (fun u hu => ?_) (by unfold maxLen; omega) (by omega) (by have := HHn.out.bel.size; have := b2'.size; simp; omega) (fun v' w5 ho' hg' hat => ?_)
        · rw [Addr.add_lit]
          refine (blk_new w2 w2.heap.size _ _ rfl).cell ?_
          simpa [ptrB] using hj
        · simp only [List.mem_singleton] at hu
          subst hu
          rfl
        obtain ⟨vc, vcap, rfl⟩ := Cal.own_form ho'
        obtain ⟨v', hv9⟩ : ∃ v', Value.slice vc (i + 1) vcap = v' := ⟨_, rfl⟩
        rw [hv9] at ho' hat
        have C5 : Chg (fun q => mv.ownBlock = some q) wr w5 := C2.trans (fun q hq => Or.inl hq) (Chg.of_grown hg')
        have hb5 : Blk w5 (w1.heap.size + 1) (hsC l.length pl mv (.slice (some ⟨w1.heap.size, 0, none⟩) g g) 0) 62 := HHn.out.blk.chg C5 (own_unl HHn.out.own HHn.out.blk (by decide))
        have d2 : w5.cell? ⟨w1.heap.size + 1, 2, none⟩ = some mv := hb5.cell rfl
        have dfr : w5.frozen? ⟨w1.heap.size + 1, 2, none⟩ = false := hb5.frozen
        have hne : v'.ownBlock ≠ some (w1.heap.size + 1) := own_unl ho' hb5 (by decide)
        obtain ⟨W6, hW6, hb6, C6⟩ : ∃ W6, w5.setCell ⟨w1.heap.size + 1, 2, none⟩ v' = W6 ∧ Blk W6 (w1.heap.size + 1) (hsC l.length pl v' (.slice (some ⟨w1.heap.size, 0, none⟩) g g) 0) 62 ∧ Chg (fun q => q = w1.heap.size + 1) w5 W6 :=
          ⟨_, rfl, hb5.set 2 v', ⟨rfl, rfl, rfl, by simp [World.setCell], fun q hq hn => Below.heap_setCell _ _ _ _ (fun e => hn e)⟩⟩
        have hlg5 := HHn.out.lg.chg C5 (own_unl HHn.out.own HHn.out.lg.blk (by decide)) (own_unl HHn.out.own HHn.out.lg.row (by decide))
        have hrw5 := HHn.out.row.chg C5 (own_unl HHn.out.own HHn.out.row (by decide))
        have hbx : ∀ bb, Cal.Bk w5 w.heap.size bb (.slice none 0 0) ⟨1, []⟩ → Cal.Bk W6 w.heap.size bb (.slice none 0 0) ⟨1, []⟩ := fun bb h => h.chg C6 (fun e => blk_unl h.blk hb5 (by decide) e) (fun q hq => by cases hq)
        have hnew : Cal.Bk w5 w.heap.size wr.heap.size (.slice none 0 0) ⟨1, []⟩ := by
          have hk5 : Cal.Bk w5 wr.heap.size wr.heap.size (.slice none 0 0) ⟨1, []⟩ := Cal.Bk.chg K2 (Chg.of_grown hg') (fun e => by have := (HHn.out.own.lt _ e).2; omega) (fun q hq => by cases hq)
          exact ⟨hk5.blk, World.ownsRow_nil _ _ _ _, HHn.out.bel.size, hk5.ne, hk5.inv⟩
        have hold : ∀ bb ∈ bs, Cal.Bk w5 w.heap.size bb (.slice none 0 0) ⟨1, []⟩ := fun bb hbb => by
          have h := HHn.out.bk bb hbb
          exact h.chg C5 (own_unl HHn.out.own h.blk (by decide)) (fun q hq => by cases hq)
        have HF : Hid (∃ mv bs, Hn w (i + 1) g (w1.heap.size + 1) pl bl w1.heap.size l W6 mv bs) := by
          refine ⟨v', bs ++ [wr.heap.size], ⟨by simp [HHn.out.len], hb6, hlg5.chg C6 (fun e => blk_unl hlg5.blk hb5 (by decide) e) (fun e => blk_unl hlg5.row hb5 (by decide) e), hrw5.chg C6 (fun e => blk_unl hrw5 hb5 (by decide) e), ?_, fun bb hbb => ?_, ?_, HHn.out.b0, ?_⟩⟩
          · rw [List.map_append]
            exact own_chg ho' C6 (fun q hq e => hne (e ▸ hq))
          · rcases List.mem_append.1 hbb with h | h
            · exact hbx _ (hold _ h)
            · rw [List.mem_singleton] at h; rw [h]; exact hbx _ hnew
          · rw [List.nodup_append]
            refine ⟨HHn.out.nd, by simp, fun a ha b hb e => ?_⟩
            rw [List.mem_singleton] at hb
            have h1 := (HHn.out.bk a ha).blk.lt
            omega
          · have h5 : Below w.heap.size w w5 := below_chg HHn.out.bel HHn.out.bel.size C5 (fun q hq => (HHn.out.own.lt q hq).1)
            exact below_chg h5 h5.size C6 (fun q hq => by have := HHn.out.b0.1; omega)
        subst hv9
        refine hK.out _ _ trivial (fun hS => ?_)
        clear hK hbx hnew hold hlg5 hrw5 hb6 C6 hne C5 hb5 C2 O3 b2' ho' hg' hat
        refine tkG (i := 8) (v := .pointer (some ⟨w1.heap.size + 1, 0, none⟩)) rfl hS ?_
        refine tkG (i := 9) (v := .pointer (some ⟨w1.heap.size + 1, 2, none⟩)) rfl hS ?_
        refine wpAnyH_ready (rs := [10]) (by kernel_rfl) (by simp) ?_
        refine AllReadyH.cons rfl (fun K hK => ?_) AllReadyH.nil
        go_simp
        refine hK.out _ _ trivial (fun hS => ?_)
        clear hK
        refine wpAnyH_done (by kernel_rfl) ?_ _
        go_wp2
        exact ⟨⟨i + 1, by omega, by norm_cast, HF⟩, by simp [intOf]; omega⟩
      · go_simp
        refine Calls.mono HNC.out ?_
        rintro e w2 ⟨rfl, K2, b2⟩
        refine hK.out _ _ trivial (fun hS => ?_)
        clear hK
        have c2' : w2.cell? ⟨w1.heap.size + 1, 2, none⟩ = some mv := (b2.cell (p := ⟨w1.heap.size + 1, 2, none⟩) (World.block_lt_of_cell? _ _ c2)).trans c2
        refine wpAnyH_ready (rs := [4, 6]) (by kernel_rfl) (by simp) ?_
        refine AllReadyH.cons rfl (fun K hK => ?_) (AllReadyH.cons rfl (fun K hK => ?_) AllReadyH.nil)
        · go_simp
          refine hK.out _ _ trivial (fun hS => ?_)
          clear hK
          have b2' : Below wr.heap.size wr w2 := ⟨b2.os, b2.tape, b2.output, b2.size, b2.block⟩
          have C2 : Chg (fun q => mv.ownBlock = some q) wr w2 := Chg.of_below b2'
          have O3 : (w2.alloc (.cells #[.pointer (some ⟨wr.heap.size, 0, none⟩)] 72)).ownsRow w.heap.size 72 1 mv i (bs.map ptrB) := World.ownsRow.alloc (own_chg (D := fun q => wr.heap.size ≤ q) HHn.out.own (Chg.of_below b2') (fun q hq h => by have := (HHn.out.own.lt q hq).2; omega)) _
          refine wpAnyH_ready (rs := [6]) (by kernel_rfl) (by simp) ?_
          refine AllReadyH.cons rfl (fun K hK => ?_) AllReadyH.nil
          go_simp
          refine hK.out _ _ trivial (fun hS => ?_)
          clear hK
          refine wpAnyH_ready (rs := [7]) (by kernel_rfl) (by simp) ?_
          refine AllReadyH.cons rfl (fun K hK => ?_) AllReadyH.nil
          refine step_ifC rfl ?_
          refine wp_append_at (.tmp 31) (.tmp 33) 59 rfl w.heap.size 72 j0 (.pointer none) 1 8 Tryz.underlying59 hj hy0 hy1 hy2 rfl (by decide) mv i (bs.map ptrB) (by kernel_rfl) O3 ⟨w2.heap.size, 0, none⟩ 1 1 [ptrB wr.heap.size] (by kernel_rfl) rfl (fun j u hj => ?_) (fun u hu => ?_) (by unfold maxLen; omega) (by omega) (by have := HHn.out.bel.size; have := b2'.size; simp; omega) (fun v' w5 ho' hg' hat => ?_)
          · rw [Addr.add_lit]
            refine (blk_new w2 w2.heap.size _ _ rfl).cell ?_
            simpa [ptrB] using hj
          · simp only [List.mem_singleton] at hu
            subst hu
            rfl
          obtain ⟨vc, vcap, rfl⟩ := Cal.own_form ho'
          obtain ⟨v', hv9⟩ : ∃ v', Value.slice vc (i + 1) vcap = v' := ⟨_, rfl⟩
          rw [hv9] at ho' hat
          have C5 : Chg (fun q => mv.ownBlock = some q) wr w5 := C2.trans (fun q hq => Or.inl hq) (Chg.of_grown hg')
          have hb5 : Blk w5 (w1.heap.size + 1) (hsC l.length pl mv (.slice (some ⟨w1.heap.size, 0, none⟩) g g) 0) 62 := HHn.out.blk.chg C5 (own_unl HHn.out.own HHn.out.blk (by decide))
          have d2 : w5.cell? ⟨w1.heap.size + 1, 2, none⟩ = some mv := hb5.cell rfl
          have dfr : w5.frozen? ⟨w1.heap.size + 1, 2, none⟩ = false := hb5.frozen
          have hne : v'.ownBlock ≠ some (w1.heap.size + 1) := own_unl ho' hb5 (by decide)
          obtain ⟨W6, hW6, hb6, C6⟩ : ∃ W6, w5.setCell ⟨w1.heap.size + 1, 2, none⟩ v' = W6 ∧ Blk W6 (w1.heap.size + 1) (hsC l.length pl v' (.slice (some ⟨w1.heap.size, 0, none⟩) g g) 0) 62 ∧ Chg (fun q => q = w1.heap.size + 1) w5 W6 :=
            ⟨_, rfl, hb5.set 2 v', ⟨rfl, rfl, rfl, by simp [World.setCell], fun q hq hn => Below.heap_setCell _ _ _ _ (fun e => hn e)⟩⟩
          have hlg5 := HHn.out.lg.chg C5 (own_unl HHn.out.own HHn.out.lg.blk (by decide)) (own_unl HHn.out.own HHn.out.lg.row (by decide))
          have hrw5 := HHn.out.row.chg C5 (own_unl HHn.out.own HHn.out.row (by decide))
          have hbx : ∀ bb, Cal.Bk w5 w.heap.size bb (.slice none 0 0) ⟨1, []⟩ → Cal.Bk W6 w.heap.size bb (.slice none 0 0) ⟨1, []⟩ := fun bb h => h.chg C6 (fun e => blk_unl h.blk hb5 (by decide) e) (fun q hq => by cases hq)
          have hnew : Cal.Bk w5 w.heap.size wr.heap.size (.slice none 0 0) ⟨1, []⟩ := by
            have hk5 : Cal.Bk w5 wr.heap.size wr.heap.size (.slice none 0 0) ⟨1, []⟩ := Cal.Bk.chg K2 (Chg.of_grown hg') (fun e => by have := (HHn.out.own.lt _ e).2; omega) (fun q hq => by cases hq)
            exact ⟨hk5.blk, World.ownsRow_nil _ _ _ _, HHn.out.bel.size, hk5.ne, hk5.inv⟩
          have hold : ∀ bb ∈ bs, Cal.Bk w5 w.heap.size bb (.slice none 0 0) ⟨1, []⟩ := fun bb hbb => by
            have h := HHn.out.bk bb hbb
            exact h.chg C5 (own_unl HHn.out.own h.blk (by decide)) (fun q hq => by cases hq)
          have HF : Hid (∃ mv bs, Hn w (i + 1) g (w1.heap.size + 1) pl bl w1.heap.size l W6 mv bs) := by
            refine ⟨v', bs ++ [wr.heap.size], ⟨by simp [HHn.out.len], hb6, hlg5.chg C6 (fun e => blk_unl hlg5.blk hb5 (by decide) e) (fun e => blk_unl hlg5.row hb5 (by decide) e), hrw5.chg C6 (fun e => blk_unl hrw5 hb5 (by decide) e), ?_, fun bb hbb => ?_, ?_, HHn.out.b0, ?_⟩⟩
            · rw [List.map_append]
              exact own_chg ho' C6 (fun q hq e => hne (e ▸ hq))
            · rcases List.mem_append.1 hbb with h | h
              · exact hbx _ (hold _ h)
              · rw [List.mem_singleton] at h; rw [h]; exact hbx _ hnew
            · rw [List.nodup_append]
              refine ⟨HHn.out.nd, by simp, fun a ha b hb e => ?_⟩
              rw [List.mem_singleton] at hb
              have h1 := (HHn.out.bk a ha).blk.lt
              omega
            · have h5 : Below w.heap.size w w5 := below_chg HHn.out.bel HHn.out.bel.size C5 (fun q hq => (HHn.out.own.lt q hq).1)
              exact below_chg h5 h5.size C6 (fun q hq => by have := HHn.out.b0.1; omega)
          subst hv9
          refine hK.out _ _ trivial (fun hS => ?_)
          clear hK hbx hnew hold hlg5 hrw5 hb6 C6 hne C5 hb5 C2 O3 b2' ho' hg' hat
          refine tkG (i := 8) (v := .pointer (some ⟨w1.heap.size + 1, 0, none⟩)) rfl hS ?_
          refine tkG (i := 9) (v := .pointer (some ⟨w1.heap.size + 1, 2, none⟩)) rfl hS ?_
          refine wpAnyH_ready (rs := [10]) (by kernel_rfl) (by simp) ?_
          refine AllReadyH.cons rfl (fun K hK => ?_) AllReadyH.nil
          go_simp
          refine hK.out _ _ trivial (fun hS => ?_)
          clear hK
          refine wpAnyH_done (by kernel_rfl) ?_ _
          go_wp2
          exact ⟨⟨i + 1, by omega, by norm_cast, HF⟩, by simp [intOf]; omega⟩
        · go_simp
          refine hK.out _ _ trivial (fun hS => ?_)
          clear hK
          have c3' : (w2.alloc (.cells #[.pointer (some ⟨wr.heap.size, 0, none⟩)] 72)).cell? ⟨w1.heap.size + 1, 2, none⟩ = some mv := (((Below.refl w2.heap.size w2).alloc (Nat.le_refl _) _).cell (p := ⟨w1.heap.size + 1, 2, none⟩) (World.block_lt_of_cell? _ _ c2')).trans c2'
          refine wpAnyH_ready (rs := [4]) (by kernel_rfl) (by simp) ?_
          refine AllReadyH.cons rfl (fun K hK => ?_) AllReadyH.nil
          go_simp
          refine hK.out _ _ trivial (fun hS => ?_)
          clear hK
          have b2' : Below wr.heap.size wr w2 := ⟨b2.os, b2.tape, b2.output, b2.size, b2.block⟩
          have C2 : Chg (fun q => mv.ownBlock = some q) wr w2 := Chg.of_below b2'
          have O3 : (w2.alloc (.cells #[.pointer (some ⟨wr.heap.size, 0, none⟩)] 72)).ownsRow w.heap.size 72 1 mv i (bs.map ptrB) := World.ownsRow.alloc (own_chg (D := fun q => wr.heap.size ≤ q) HHn.out.own (Chg.of_below b2') (fun q hq h => by have := (HHn.out.own.lt q hq).2; omega)) _
          refine wpAnyH_ready (rs := [7]) (by kernel_rfl) (by simp) ?_
          refine AllReadyH.cons rfl (fun K hK => ?_) AllReadyH.nil
          refine step_ifC rfl ?_
          refine wp_append_at (.tmp 31) (.tmp 33) 59 rfl w.heap.size 72 j0 (.pointer none) 1 8 Tryz.underlying59 hj hy0 hy1 hy2 rfl (by decide) mv i (bs.map ptrB) (by kernel_rfl) O3 ⟨w2.heap.size, 0, none⟩ 1 1 [ptrB wr.heap.size] (by kernel_rfl) rfl (fun j u hj => ?_) (fun u hu => ?_) (by unfold maxLen; omega) (by omega) (by have := HHn.out.bel.size; have := b2'.size; simp; omega) (fun v' w5 ho' hg' hat => ?_)
          · rw [Addr.add_lit]
            refine (blk_new w2 w2.heap.size _ _ rfl).cell ?_
            simpa [ptrB] using hj
          · simp only [List.mem_singleton] at hu
            subst hu
            rfl
          obtain ⟨vc, vcap, rfl⟩ := Cal.own_form ho'
          obtain ⟨v', hv9⟩ : ∃ v', Value.slice vc (i + 1) vcap = v' := ⟨_, rfl⟩
          rw [hv9] at ho' hat
          have C5 : Chg (fun q => mv.ownBlock = some q) wr w5 := C2.trans (fun q hq => Or.inl hq) (Chg.of_grown hg')
          have hb5 : Blk w5 (w1.heap.size + 1) (hsC l.length pl mv (.slice (some ⟨w1.heap.size, 0, none⟩) g g) 0) 62 := HHn.out.blk.chg C5 (own_unl HHn.out.own HHn.out.blk (by decide))
          have d2 : w5.cell? ⟨w1.heap.size + 1, 2, none⟩ = some mv := hb5.cell rfl
          have dfr : w5.frozen? ⟨w1.heap.size + 1, 2, none⟩ = false := hb5.frozen
          have hne : v'.ownBlock ≠ some (w1.heap.size + 1) := own_unl ho' hb5 (by decide)
          obtain ⟨W6, hW6, hb6, C6⟩ : ∃ W6, w5.setCell ⟨w1.heap.size + 1, 2, none⟩ v' = W6 ∧ Blk W6 (w1.heap.size + 1) (hsC l.length pl v' (.slice (some ⟨w1.heap.size, 0, none⟩) g g) 0) 62 ∧ Chg (fun q => q = w1.heap.size + 1) w5 W6 :=
            ⟨_, rfl, hb5.set 2 v', ⟨rfl, rfl, rfl, by simp [World.setCell], fun q hq hn => Below.heap_setCell _ _ _ _ (fun e => hn e)⟩⟩
          have hlg5 := HHn.out.lg.chg C5 (own_unl HHn.out.own HHn.out.lg.blk (by decide)) (own_unl HHn.out.own HHn.out.lg.row (by decide))
          have hrw5 := HHn.out.row.chg C5 (own_unl HHn.out.own HHn.out.row (by decide))
          have hbx : ∀ bb, Cal.Bk w5 w.heap.size bb (.slice none 0 0) ⟨1, []⟩ → Cal.Bk W6 w.heap.size bb (.slice none 0 0) ⟨1, []⟩ := fun bb h => h.chg C6 (fun e => blk_unl h.blk hb5 (by decide) e) (fun q hq => by cases hq)
          have hnew : Cal.Bk w5 w.heap.size wr.heap.size (.slice none 0 0) ⟨1, []⟩ := by
            have hk5 : Cal.Bk w5 wr.heap.size wr.heap.size (.slice none 0 0) ⟨1, []⟩ := Cal.Bk.chg K2 (Chg.of_grown hg') (fun e => by have := (HHn.out.own.lt _ e).2; omega) (fun q hq => by cases hq)
            exact ⟨hk5.blk, World.ownsRow_nil _ _ _ _, HHn.out.bel.size, hk5.ne, hk5.inv⟩
          have hold : ∀ bb ∈ bs, Cal.Bk w5 w.heap.size bb (.slice none 0 0) ⟨1, []⟩ := fun bb hbb => by
            have h := HHn.out.bk bb hbb
            exact h.chg C5 (own_unl HHn.out.own h.blk (by decide)) (fun q hq => by cases hq)
          have HF : Hid (∃ mv bs, Hn w (i + 1) g (w1.heap.size + 1) pl bl w1.heap.size l W6 mv bs) := by
            refine ⟨v', bs ++ [wr.heap.size], ⟨by simp [HHn.out.len], hb6, hlg5.chg C6 (fun e => blk_unl hlg5.blk hb5 (by decide) e) (fun e => blk_unl hlg5.row hb5 (by decide) e), hrw5.chg C6 (fun e => blk_unl hrw5 hb5 (by decide) e), ?_, fun bb hbb => ?_, ?_, HHn.out.b0, ?_⟩⟩
            · rw [List.map_append]
              exact own_chg ho' C6 (fun q hq e => hne (e ▸ hq))
            · rcases List.mem_append.1 hbb with h | h
              · exact hbx _ (hold _ h)
              · rw [List.mem_singleton] at h; rw [h]; exact hbx _ hnew
            · rw [List.nodup_append]
              refine ⟨HHn.out.nd, by simp, fun a ha b hb e => ?_⟩
              rw [List.mem_singleton] at hb
              have h1 := (HHn.out.bk a ha).blk.lt
              omega
            · have h5 : Below w.heap.size w w5 := below_chg HHn.out.bel HHn.out.bel.size C5 (fun q hq => (HHn.out.own.lt q hq).1)
              exact below_chg h5 h5.size C6 (fun q hq => by have := HHn.out.b0.1; omega)
          subst hv9
          refine hK.out _ _ trivial (fun hS => ?_)
          clear hK hbx hnew hold hlg5 hrw5 hb6 C6 hne C5 hb5 C2 O3 b2' ho' hg' hat
          refine tkG (i := 8) (v := .pointer (some ⟨w1.heap.size + 1, 0, none⟩)) rfl hS ?_
          refine tkG (i := 9) (v := .pointer (some ⟨w1.heap.size + 1, 2, none⟩)) rfl hS ?_
          refine wpAnyH_ready (rs := [10]) (by kernel_rfl) (by simp) ?_
          refine AllReadyH.cons rfl (fun K hK => ?_) AllReadyH.nil
          go_simp
          refine hK.out _ _ trivial (fun hS => ?_)
          clear hK
          refine wpAnyH_done (by kernel_rfl) ?_ _
          go_wp2
          exact ⟨⟨i + 1, by omega, by norm_cast, HF⟩, by simp [intOf]; omega⟩
    · have hd : decide ((i : Int) < (g : Int)) = false := by simp only [decide_eq_false_iff_not]; omega
      obtain rfl : i = g := by omega
      obtain ⟨mv, bs, hn⟩ := HR.out
      obtain ⟨X, hX, hm⟩ := hn.whole (by omega)
      have hbel := hn.bel
      have HM : Hid _ := hm
      have HB : Hid _ := hbel
      clear hn HR hm hbel
      go_wp2
      refine bodyPost_ret (by simp [results, Tryz.results14, go_sem]; rfl) rfl ?_
      exact ⟨X, by rw [hX], HM.out, HB.out⟩
end Go.Proofs.YtpekfpfhonechaaGreat
