/- The house: a market is cleared. -/
import Derived.Test.YtpekfpfhonechaaGreatWa36
import Derived.Maps.AppendAt
import Derived.Deep.DeepCutAuto
import Derived.Deep.CutBlock
namespace Go.Proofs.YtpekfpfhonechaaGreat
open Go.RowKit
open Go.ChangeMaps (setBlock)
set_option linter.unusedSimpArgs false
set_option linter.unusedVariables false
variable {base : Nat}

theorem wpList_append_at {P : Program} {ops : Array Oper} {rest : List Oper} {o : Oper} {a : Act} {w : World} {Q : Exit → Act → World → Prop} (hgd : o.guard = none) (s x : Operand) (t : TypeId)
    (ho : o.op = .call { callee := .builtin .append, args := #[s, x], argTypes := #[t, t] })
    (base : Nat) (e : TypeId) (i : TypeInfo) (z : Value) (size bytes : Nat) (ht : P.underlying t = some (.slice e)) (hi : P.info? e = some i) (hz : i.zero = some z)
    (hsize : i.size = size) (hby : i.bytes = bytes) (hzs : z.cells.size = size) (hsz : 0 < size)
    (v : Value) (n : Nat) (xs : List Value) (hs : a.eval s = v) (hown : w.ownsRow base e size v n xs)
    (ad : Addr) (m c : Nat) (news : List Value) (hx : a.eval x = .slice (some ad) m c) (hl : news.length = m * size) (hnews : ∀ j u, news[j]? = some u → w.cell? (ad.add j) = some u) (h1 : ∀ u ∈ news, u.oneCell' = true)
    (h63 : n + m ≤ maxLen) (hbytes : (n + m) * bytes ≤ 140737488355328) (hbase : base ≤ w.heap.size)
    (h : ∀ v' w', w'.ownsRow base e size v' (n + m) (xs ++ news) → w.grownBy w' v.ownBlock → (v'.ownBlock = v.ownBlock ∨ v'.ownBlock = some w.heap.size) → wpList P ops Q rest (a.put o.dst v') w') : wpList P ops Q (o :: rest) a w := by
  refine wpList_plain hgd fun K hK => ?_
  obtain ⟨v', w', hr, h2, h3, h4, h5⟩ := run_append_own_at (P := P) w base t o.type e i z size bytes ht hi hz hsize hby hzs hsz v n xs hown ad m c news hl hnews h1 h63 hbytes hbase
  unfold Oper.wp execOp
  simp only [ho, resolve, invoke, builtin, Sem.run_bind, Sem.run_pure, Result.andThen_ok, List.map_toArray, List.map_cons, List.map_nil, hs, hx, hr]
  exact hK _ _ (h v' w' h2 h3 h5)
theorem below_chg {D : Nat → Prop} {b : Nat} {w0 w w' : World} (h : Below b w0 w) (hB : b ≤ w.heap.size) (c : Chg D w w') (hd : ∀ k, D k → b ≤ k) : Below b w0 w' :=
  h.trans ⟨c.os, c.tape, c.output, c.size, fun k hk => c.block k (by omega) (fun e => by have := hd k e; omega)⟩
theorem MapAt.chg {D : Nat → Prop} {w w' : World} {b : Nat} {l : KVs} (h : MapAt w (some b) l) (c : Chg D w w') (hn : ¬ D b) : MapAt w' (some b) l := h.keep fun k hk => by cases hk; exact c.block b h.lt hn
theorem set_chg (w : World) (b : Nat) (o : Obj) : Chg (fun k => k = b) w (setBlock w b o) := ⟨rfl, rfl, rfl, by rw [setBlock_size]; exact Nat.le_refl _, fun k _ hn => setBlock_other o (fun e => hn e.symm)⟩
theorem Chg.of_grown {w w' : World} {o : Obj} {row : Option Nat} (h : (w.alloc o).grownBy w' row) : Chg (fun q => row = some q) w w' :=
  ⟨h.os, h.tape, h.output, Nat.le_trans (by simp) h.size, fun k hk hn => (h.block k (by simp; omega) (fun e => hn e.symm)).trans (((Below.refl w.heap.size w).alloc (Nat.le_refl _) o).block k hk)⟩
theorem Elsw.row {w : World} {base : Nat} {e : TypeId} {sz : Nat} {v : Value} {n : Nat} {xs : List Value} {ts : List TypeId} (ho : w.ownsRow base e sz v n xs) (he : e ∉ ts) : Elsw w (fun k => v.ownBlock = some k) ts :=
  fun k cs t hk ht e' => own_unl ho hk (fun e => he (e ▸ ht)) e'
theorem mul_bd {a f : Int} (h0 : -1099511627776 ≤ a) (h1 : a ≤ 1099511627776) (h2 : 0 < f) (h3 : f ≤ 1048576) : -1152921504606846976 ≤ a * f ∧ a * f ≤ 1152921504606846976 := by
  have e1 := Int.mul_le_mul_of_nonneg_right h1 (Int.le_of_lt h2)
  have e2 := Int.mul_le_mul_of_nonneg_right h0 (Int.le_of_lt h2)
  omega
/-- The whole behind a step of one market. -/
theorem Hm.mkt {w w' : World} {X : Ad} {H : Hs} {i : Nat} {b : Nat × Value} {v' : Value} {B' : Cal.Bo} (h : Hm w base X H) (hb : X.bs[i]? = some b) (hs : Cal.Bst w w' base b.1 b.2 v' B') :
    Hm w' base { X with bs := X.bs.set i (b.1, v') } { H with ms := H.ms.set i B' } ∧ Hst w w' X { X with bs := X.bs.set i (b.1, v') } := by
  obtain ⟨B, hB⟩ := get_both hb (h.mks.nm.trans h.mks.nb.symm)
  have hk := h.mks.bk i b B hb hB
  have hm : b ∈ X.bs := List.mem_of_getElem? hb
  have c : Chg (fun k => k = b.1 ∨ b.2.ownBlock = some k) w w' := Chg.of_ofb hs.of (Or.inl rfl) (fun k hk => Or.inr hk)
  refine ⟨⟨h.ha.chg c (Elsw.book hk (by decide) (by decide)), h.mks.step hb hs, h.sls.chg c (Elsw.book hk (by decide) (by decide)), h.b0, h.n0, h.ds⟩,
    ⟨c.os, c.tape, c.output, c.size, fun k hk hn => c.block k hk (fun e => hn (Or.inr (Or.inr (Or.inr (Or.inl ⟨b, hm, e⟩)))))⟩, fun k hk => ?_⟩
  rcases hk with e | e | e | ⟨x, hx, e⟩ | e
  · exact Or.inl (Or.inl e)
  · exact Or.inl (Or.inr (Or.inl e))
  · exact Or.inl (Or.inr (Or.inr (Or.inl e)))
  · rcases List.mem_or_eq_of_mem_set hx with hx | rfl
    · exact Or.inl (Or.inr (Or.inr (Or.inr (Or.inl ⟨x, hx, e⟩))))
    · rcases e with e | e
      · exact Or.inl (Or.inr (Or.inr (Or.inr (Or.inl ⟨b, hm, Or.inl e⟩))))
      · rcases hs.at_ k e with e | e
        · exact Or.inl (Or.inr (Or.inr (Or.inr (Or.inl ⟨b, hm, Or.inr e⟩))))
        · exact Or.inr e
  · exact Or.inl (Or.inr (Or.inr (Or.inr (Or.inr e))))

set_option maxRecDepth 100000 in
set_option maxHeartbeats 8000000 in
theorem clear_hs (w : World) {X : Ad} {H : Hs} (h : Hm w base X H) (hB : base ≤ w.heap.size) (i : Nat) (hi : i < H.g) {B : Cal.Bo} (hBk : H.ms[i]? = some B) {b : Nat × Value} (hb : X.bs[i]? = some b) :
    Calls Tryz.prog 68 #[.pointer (some ⟨X.p, 0, none⟩), .int .i64 i] w fun e w' => e = .returned (.tuple #[]) ∧ ∃ v', Hm w' base { X with bs := X.bs.set i (b.1, v') } { H with l := clrL H.g i H.l B, ms := H.ms.set i B.clr } ∧ Hst w w' X { X with bs := X.bs.set i (b.1, v') } := by
  have hbinv := (h.mks.bk i b B hb hBk).inv
  obtain ⟨W0, hW0, M0, B0, hs0⟩ : ∃ W0, (w.alloc (.map #[] 0)) = W0 ∧ MapAt W0 (some w.heap.size) [] ∧ Below w.heap.size w W0 ∧ Hid (W0.heap.size = w.heap.size + 1) :=
    ⟨_, rfl, heap_alloc_new _ _, by go_grown, (by simp : (w.alloc (.map #[] 0)).heap.size = w.heap.size + 1)⟩
  have hmk : ∀ t wx, (Instr.makeMap t none).run Tryz.prog wx = .ok (.map (some wx.heap.size)) (wx.alloc (.map #[] 0)) := fun _ _ => rfl
  have HMk : Hid _ := market_hs W0 (h.below B0) i hi hBk
  have HH : Hid _ := h
  have Hb : Hid _ := hb
  have HBk : Hid _ := hBk
  have HM0 : Hid _ := M0
  have HB0 : Hid _ := B0
  have hg4 := h.ha.lg.inv.g4
  have hlen := hbinv.len
  have HBi : Hid _ := hbinv
  have hii : (i : Int) < (H.g : Int) := by omega
  clear h hb hBk M0 B0 hbinv
  go_enter Tryz.func68, Tryz.ntmps68
  go_wp2_with fail
  refine Calls.mono HMk.out ?_
  rintro e w1 ⟨v1, rfl, O1, b1⟩
  obtain ⟨oc, ocap, rfl⟩ := Cal.own_form O1
  have HO : Hid _ := Cal.ods_own O1
  have HOL : Hid (∀ k, (Value.slice oc B.os.length ocap).ownBlock = some k → W0.heap.size ≤ k) := fun k hk => (O1.lt k hk).1
  have HI1 : Hid (MapAt w1 (some w.heap.size) (kv (limM (B.os.take 0))) ∧ Chg (fun q => q = w.heap.size) w1 w1) := ⟨MapAt.below HM0.out b1, Chg.of_below (Below.refl _ _)⟩
  have Hb1 : Hid _ := b1
  clear O1 b1 HMk
  go_wp2_with fail
  go_loopw [21] (fun iv wr => ∃ k : Nat, k ≤ B.os.length ∧ iv = .int .i64 k ∧ Hid (MapAt wr (some w.heap.size) (kv (limM (B.os.take k))) ∧ Chg (fun q => q = w.heap.size) w1 wr)) (fun iv _ => B.os.length - (intOf iv).toNat)
  case atStart => exact ⟨0, Nat.zero_le _, rfl, HI1⟩
  case round =>
    clear HI1
    obtain ⟨k, hk, rfl, HR⟩ := hrel
    by_cases hlt : k < B.os.length
    · have hd : decide ((k : Int) < (B.os.length : Int)) = true := by simp only [decide_eq_true_eq]; omega
      have hd' : (k : Int) < (B.os.length : Int) := by omega
      obtain ⟨o, ho⟩ : ∃ o, B.os[k]? = some o := ⟨B.os[k], by simp [hlt]⟩
      obtain ⟨pp, cap, hv, hcs⟩ := HO.out
      injection hv with hv1 hv2 hv3
      subst hv1 hv3
      clear hv2
      rcases hcs with hnil | ⟨gb, off, hp, hcs⟩
      · exfalso; rw [hnil] at hlt; simp at hlt
      subst hp
      have hgb : gb ≠ w.heap.size := by have h1 := HOL.out gb rfl; have h2 := hs0.out; omega
      obtain ⟨c0, c1, c2, c3, c4, c5⟩ := Cal.Ods.six hcs ho
      have d0 := HR.out.2.cell (a := ⟨gb, off + k * 6, none⟩) c0 hgb
      have d1 := HR.out.2.cell (a := ⟨gb, off + k * 6 + 1, none⟩) c1 hgb
      have d2 := HR.out.2.cell (a := ⟨gb, off + k * 6 + 2, none⟩) c2 hgb
      have d3 := HR.out.2.cell (a := ⟨gb, off + k * 6 + 3, none⟩) c3 hgb
      have d4 := HR.out.2.cell (a := ⟨gb, off + k * 6 + 4, none⟩) c4 hgb
      have d5 := HR.out.2.cell (a := ⟨gb, off + k * 6 + 5, none⟩) c5 hgb
      have HLT : Hid (limM (B.os.take (k + 1)) = limS (limM (B.os.take k)) o) := by
        have h1 := lim_take B.os k hlt
        rw [(List.getElem?_eq_some_iff.1 ho).2] at h1
        exact h1
      obtain ⟨W1, hW1, XM, B1⟩ : ∃ W1, (wr.alloc (.cells #[.int .i64 o.id, .int .i64 o.own, .int .i64 o.pr, .int .i64 o.am, .int .i64 o.pl, .bool o.by] 51)) = W1 ∧ Blk W1 wr.heap.size (Cal.oC o).toArray 51 ∧ Below wr.heap.size wr W1 :=
        ⟨_, rfl, blk_new _ _ _ _ rfl, by go_grown⟩
      have x0 : W1.cell? ⟨wr.heap.size, 0, none⟩ = some (.int .i64 o.id) := XM.cell rfl
      have x2 : W1.cell? ⟨wr.heap.size, 2, none⟩ = some (.int .i64 o.pr) := XM.cell rfl
      have x5 : W1.cell? ⟨wr.heap.size, 5, none⟩ = some (.bool o.by) := XM.cell rfl
      have HM1 : Hid (MapAt W1 (some w.heap.size) (kv (limM (B.os.take k))) ∧ Chg (fun q => q = w.heap.size) w1 W1) := ⟨MapAt.below HR.out.1 B1, HR.out.2.trans (fun q hq => Or.inl hq) (Chg.of_below B1)⟩
      clear c0 c1 c2 c3 c4 c5 hcs ho B1 XM HR
      generalize hyb : o.by = yb at *
      go_upto_region 4 with fail
      clear d0 d1 d2 d3 d4 d5 hW1
      cases yb
      · have HF : Hid (MapAt W1 (some w.heap.size) (kv (limM (B.os.take (k + 1)))) ∧ Chg (fun q => q = w.heap.size) w1 W1) := by
          have h1 := HLT.out
          unfold limS at h1
          rw [if_neg (by rw [hyb]; decide)] at h1
          rw [h1]; exact HM1.out
        clear HM1 HLT hyb
        go_wp2
        exact ⟨⟨k + 1, by omega, by norm_cast, HF⟩, by simp [intOf]; omega⟩
      · have hnt := run_note (P := Tryz.prog) (T := 158) (E := 3) Tryz.underlying158 Tryz.underlying3 HM1.out.1 o.id (.int .i64 o.pr)
        obtain ⟨W2, hW2, M2, C2⟩ : ∃ W2, setBlock W1 w.heap.size (.map (ents (vput (kv (limM (B.os.take k))) o.id (.int .i64 o.pr))) (vput (kv (limM (B.os.take k))) o.id (.int .i64 o.pr)).length) = W2 ∧ MapAt W2 (some w.heap.size) (vput (kv (limM (B.os.take k))) o.id (.int .i64 o.pr)) ∧ Chg (fun q => q = w.heap.size) W1 W2 :=
          ⟨_, rfl, MapAt.set HM1.out.1 _, set_chg _ _ _⟩
        rw [hW2] at hnt
        have HF : Hid (MapAt W2 (some w.heap.size) (kv (limM (B.os.take (k + 1)))) ∧ Chg (fun q => q = w.heap.size) w1 W2) := by
          have h1 := HLT.out
          unfold limS at h1
          rw [if_pos hyb] at h1
          rw [h1, ← vput_kv]
          exact ⟨M2, HM1.out.2.trans (fun q hq => Or.inl hq) C2⟩
        clear HM1 HLT hyb hW2 M2 C2
        go_wp2
        exact ⟨⟨k + 1, by omega, by norm_cast, HF⟩, by simp [intOf]; omega⟩
    · have hd : decide ((k : Int) < (B.os.length : Int)) = false := by simp only [decide_eq_false_iff_not]; omega
      have htk : B.os.take k = B.os := List.take_of_length_le (by omega)
      rw [htk] at HR
      obtain ⟨wa, rfl⟩ : ∃ wa, wa = wr := ⟨wr, rfl⟩
      have HBA : Hid (Below w.heap.size w wa) := below_chg (HB0.out.trans (Hb1.out.mono (by have := hs0.out; omega))) (Nat.le_trans HB0.out.size Hb1.out.size) HR.out.2 (fun q hq => by omega)
      have HA : Hid _ := HH.out.below HBA.out
      have hzA := HBA.out.size
      have c2 : wa.cell? ⟨X.p, 2, none⟩ = some (.slice (some ⟨X.qm, 0, none⟩) H.g X.cm) := HA.out.ha.blk.cell rfl
      obtain ⟨cs, hr, hr2⟩ := HA.out.mks.row
      have cq : wa.cell? ⟨X.qm, i, none⟩ = some (.pointer (some ⟨b.1, 0, none⟩)) := hr.cell (hr2 i b Hb.out)
      have HCl : Hid _ := Cal.clear_calls wa (HA.out.mks.bk i b B Hb.out HBk.out) (Nat.le_trans hB hzA)
      have HMA : Hid (MapAt wa (some w.heap.size) (kv (limM B.os))) := HR.out.1
      clear hr hr2 HR
      go_wp2_with fail
      refine Calls.mono HCl.out ?_
      rintro e w2 ⟨vF, v', rfl, OF, ST⟩
      have HA2 : Hid _ := HA.out.mkt Hb.out ST
      have HM2 : Hid (MapAt w2 (some w.heap.size) (kv (limM B.os))) := HMA.out.keep fun k hk => by
        cases hk
        have hkb := HH.out.mks.bk i b B Hb.out HBk.out
        refine ST.of.block _ HMA.out.lt (fun e => ?_) (fun e => ?_)
        · have := hkb.blk.lt; omega
        · have := (hkb.row.lt _ e).2; omega
      obtain ⟨fc, fcap, rfl⟩ := Cal.own_form OF
      have HOF : Hid _ := OF
      have hfl := Cal.fl_len B
      have hz2 := ST.of.size
      have HI2 : Hid (w2.ownsRow w2.heap.size 163 3 (.slice none 0 0) (clrS H.g H.l B 0).2.1.length (Cal.fiL (clrS H.g H.l B 0).2.1) ∧ w2.ownsRow w2.heap.size 163 3 (.slice none 0 0) (clrS H.g H.l B 0).2.2.length (Cal.fiL (clrS H.g H.l B 0).2.2) ∧ (∀ q, (Value.slice none 0 0).ownBlock = some q → (Value.slice none 0 0).ownBlock ≠ some q) ∧ Ha w2 X.p X.pl X.bl H.g (clrS H.g H.l B 0).1 (.slice (some ⟨X.qm, 0, none⟩) H.g X.cm) (.slice (some ⟨X.qs, 0, none⟩) H.g H.g) H.now ∧ Chg (fun q => q = X.bl) w2 w2) :=
        ⟨by rw [clrS_zero]; exact World.ownsRow_nil _ _ _ _, by rw [clrS_zero]; exact World.ownsRow_nil _ _ _ _, (by intro q hq; cases hq), by rw [clrS_zero]; exact HA2.out.1.ha, Chg.of_below (Below.refl _ _)⟩
      have HST : Hid _ := ST
      have hcb := crs_pr B.os
      clear ST OF c2 cq HCl HA
      obtain ⟨pc, hpc⟩ : ∃ pc, (Cal.crs B.os).1 = pc := ⟨_, rfl⟩
      have HPC : Hid _ := hpc
      rw [hpc] at hcb ⊢
      clear hpc
      go_wp2_with fail
      go_loopw [47, 10, 11] (fun iv vb vs wr => ∃ k : Nat, k ≤ B.fl.length ∧ iv = .int .i64 k ∧ Hid (wr.ownsRow w2.heap.size 163 3 vb (clrS H.g H.l B k).2.1.length (Cal.fiL (clrS H.g H.l B k).2.1) ∧ wr.ownsRow w2.heap.size 163 3 vs (clrS H.g H.l B k).2.2.length (Cal.fiL (clrS H.g H.l B k).2.2) ∧ (∀ q, vb.ownBlock = some q → vs.ownBlock ≠ some q) ∧ Ha wr X.p X.pl X.bl H.g (clrS H.g H.l B k).1 (.slice (some ⟨X.qm, 0, none⟩) H.g X.cm) (.slice (some ⟨X.qs, 0, none⟩) H.g H.g) H.now ∧ Chg (fun q => q = X.bl) w2 wr)) (fun iv _ _ _ => B.fl.length - (intOf iv).toNat)
      case atStart => exact ⟨0, Nat.zero_le _, rfl, HI2⟩
      case round =>
        clear HI2
        obtain ⟨k, hk, rfl, HR⟩ := hrel
        by_cases hlt : k < B.fl.length
        · have hd : decide ((k : Int) < (B.fl.length : Int)) = true := by simp only [decide_eq_true_eq]; omega
          have hd' : (k : Int) < (B.fl.length : Int) := by omega
          obtain ⟨f, hf⟩ : ∃ f, B.fl[k]? = some f := ⟨B.fl[k], by simp [hlt]⟩
          have hfe : B.fl[k] = f := (List.getElem?_eq_some_iff.1 hf).2
          have HST2 : Hid (clrS H.g H.l B (k + 1) = stepF H.g pc (limM B.os) (clrS H.g H.l B k) f) := by
            have h1 := clrS_succ H.g H.l B k hlt
            rw [hfe, HPC.out] at h1
            exact h1
          have hfb := fl_bd HBi.out (List.mem_of_getElem? hf)
          obtain ⟨pp, cap, hv, hcp, hcs⟩ := Fw.of_own HOF.out
          injection hv with hv1 hv2 hv3
          subst hv1 hv3
          clear hv2
          rcases hcs with hnil | ⟨gq, off, cur, hp, hgb, XF, hcs⟩
          · exfalso; rw [hnil] at hlt; simp at hlt
          subst hp
          have hnb : gq ≠ X.bl := blk_unl XF HA2.out.1.ha.lg.row (by decide)
          have d0 : wr.cell? ⟨gq, off + k * 3, none⟩ = some (.int .i64 f.1) := HR.out.2.2.2.2.cell (a := ⟨gq, off + k * 3, none⟩) (XF.cell (hcs k f hf 0 _ rfl)) hnb
          have d1 : wr.cell? ⟨gq, off + k * 3 + 1, none⟩ = some (.int .i64 f.2.1) := HR.out.2.2.2.2.cell (a := ⟨gq, off + k * 3 + 1, none⟩) (XF.cell (hcs k f hf 1 _ rfl)) hnb
          have d2 : wr.cell? ⟨gq, off + k * 3 + 2, none⟩ = some (.int .i64 f.2.2) := HR.out.2.2.2.2.cell (a := ⟨gq, off + k * 3 + 2, none⟩) (XF.cell (hcs k f hf 2 _ rfl)) hnb
          obtain ⟨W1, hW1, XM, B1⟩ : ∃ W1, (wr.alloc (.cells #[.int .i64 f.1, .int .i64 f.2.1, .int .i64 f.2.2] 163)) = W1 ∧ Blk W1 wr.heap.size (Cal.fC f).toArray 163 ∧ Below wr.heap.size wr W1 :=
            ⟨_, rfl, blk_new _ _ _ _ rfl, by go_grown⟩
          have x0 : W1.cell? ⟨wr.heap.size, 0, none⟩ = some (.int .i64 f.1) := XM.cell rfl
          have x1 : W1.cell? ⟨wr.heap.size, 1, none⟩ = some (.int .i64 f.2.1) := XM.cell rfl
          have x2 : W1.cell? ⟨wr.heap.size, 2, none⟩ = some (.int .i64 f.2.2) := XM.cell rfl
          have hzr := HR.out.2.2.2.2.size
          have hbx : wr.heap.size ≠ X.bl := by have := HR.out.2.2.2.1.lg.row.lt; omega
          have HM1 : Hid (MapAt W1 (some w.heap.size) (kv (limM B.os))) := by
            have h1 := HM2.out.chg HR.out.2.2.2.2 (fun e => by
              have h2 := HA2.out.1.ha.lg.row
              have h3 := HM2.out.blk h2
              exact h3 e)
            exact MapAt.below h1 B1
          have HRW : Hid _ := HR.out.2.2.2.1.below B1
          have HOB : Hid (W1.ownsRow w2.heap.size 163 3 u10 (clrS H.g H.l B k).2.1.length (Cal.fiL (clrS H.g H.l B k).2.1) ∧ W1.ownsRow w2.heap.size 163 3 u11 (clrS H.g H.l B k).2.2.length (Cal.fiL (clrS H.g H.l B k).2.2) ∧ (∀ q, u10.ownBlock = some q → u11.ownBlock ≠ some q) ∧ Chg (fun q => q = X.bl) w2 W1) :=
            ⟨own_chg (D := fun q => wr.heap.size ≤ q) HR.out.1 (Chg.of_below B1) (fun q hq h => by have := (HR.out.1.lt q hq).2; omega), own_chg (D := fun q => wr.heap.size ≤ q) HR.out.2.1 (Chg.of_below B1) (fun q hq h => by have := (HR.out.2.1.lt q hq).2; omega), HR.out.2.2.1, HR.out.2.2.2.2.trans (fun q hq => Or.inl hq) (Chg.of_below B1)⟩
          have hPL : (clrS H.g H.l B k).2.1.length ≤ 128 ∧ (clrS H.g H.l B k).2.2.length ≤ 128 := by
            obtain ⟨_, h2, h3⟩ := clrS_parts H.g H.l B k (by omega)
            rw [h2, h3]
            have ha := List.length_filter_le (fun f : Cal.Fi => (igt (limM B.os) f.1).isSome) (B.fl.take k)
            have hb := List.length_filter_le (fun f : Cal.Fi => !(igt (limM B.os) f.1).isSome) (B.fl.take k)
            have hc := List.length_take_le k B.fl
            constructor <;> omega
          have hzW := B1.size
          have hW1s : wr.heap.size < W1.heap.size := XM.lt
          have HXM : Hid _ := XM
          obtain ⟨St, hSt⟩ : ∃ St, clrS H.g H.l B k = St := ⟨_, rfl⟩
          rw [hSt] at HST2 HOB hPL HRW
          obtain ⟨fi, fo, fa⟩ := f
          simp only at d0 d1 d2 x0 x1 x2 hW1 hfb HST2 HXM
          clear hcs hf hfe HR XF XM B1 hSt hcp
          have hz0 : ∀ w, (zeroValue 3).run Tryz.prog w = .ok (.int .i64 0) w := fun _ => by kernel_rfl
          cases hig : igt (limM B.os) fi with
          | none =>
            have hlk : (Instr.lookup 158 (.map (some w.heap.size)) (.int .i64 fi) true).run Tryz.prog W1 = .ok (.tuple #[.int .i64 0, .bool false]) W1 := by
              rw [run_look Tryz.underlying158 Tryz.underlying3 hz0 HM1.out fi]
              simp only [vgetZ, vget_kv, hig, Option.map_none, Option.getD_none, Option.isSome_none]
            have HSE : Hid (stepF H.g pc (limM B.os) St (fi, fo, fa) = (St.1, St.2.1, St.2.2 ++ [(fi, fo, fa)])) := by show _ = _; simp only [stepF, hig]
            rw [HSE.out] at HST2
            obtain ⟨i0, hi0, hi1, hi2, hi3⟩ := info_parts Cal.infoF
            have h3 : (Tryz.prog.info? 163).map (·.size) = some (Cal.fC (fi, fo, fa)).toArray.size := by kernel_rfl
            have hun := Tryz.underlying163
            have hz2W := HOB.out.2.2.2.size
            clear hig HM1 HSE
            go_wp2_with ((at_builtin; refine wpList_append_at rfl (.tmp 73) (.tmp 75) 159 rfl w2.heap.size 163 i0 (.agg #[.int .i64 0, .int .i64 0, .int .i64 0]) 3 24 Tryz.underlying159 hi0 hi1 hi2 hi3 rfl (by decide) _ _ _ rfl (World.ownsRow.alloc HOB.out.2.1 _) ⟨W1.heap.size, 0, none⟩ 1 1 (Cal.fC (fi, fo, fa)) rfl rfl ?c1 ?c2 ?c3 ?c4 ?c5 ?_))
            case c1 =>
              intro j u hj
              rw [Addr.add_lit]
              refine (blk_new W1 W1.heap.size _ _ rfl).cell ?_
              simpa [Cal.fC] using hj
            case c2 => intro u hu; simp [Cal.fC] at hu; rcases hu with rfl | rfl | rfl <;> rfl
            case c3 => unfold maxLen; omega
            case c4 => omega
            case c5 => simp; omega
            intro v9 w5 ho' hg' hat
            have C5 := Chg.of_grown hg'
            have HF : Hid (w5.ownsRow w2.heap.size 163 3 u10 (clrS H.g H.l B (k + 1)).2.1.length (Cal.fiL (clrS H.g H.l B (k + 1)).2.1) ∧ w5.ownsRow w2.heap.size 163 3 v9 (clrS H.g H.l B (k + 1)).2.2.length (Cal.fiL (clrS H.g H.l B (k + 1)).2.2) ∧ (∀ q, (u10).ownBlock = some q → (v9).ownBlock ≠ some q) ∧ Ha w5 X.p X.pl X.bl H.g (clrS H.g H.l B (k + 1)).1 (.slice (some ⟨X.qm, 0, none⟩) H.g X.cm) (.slice (some ⟨X.qs, 0, none⟩) H.g H.g) H.now ∧ Chg (fun q => q = X.bl) w2 w5) := by
              show _
              rw [HST2.out]
              refine ⟨own_chg HOB.out.1 C5 (fun q hq e => HOB.out.2.2.1 q hq e), ?_, fun q hq e => ?_, Ha.chg HRW.out C5 (Elsw.row HOB.out.2.1 (by decide)), HOB.out.2.2.2.trans (fun q hq => Or.inr (HOB.out.2.1.lt q hq).1) C5⟩
              · show World.ownsRow _ _ _ _ _ _ _
                rw [Cal.fiL_app, List.length_append, show Cal.fiL [(fi, fo, fa)] = Cal.fC (fi, fo, fa) by simp [Cal.fiL]]
                exact ho'
              · rcases hat with h | h
                · rw [h] at e; exact HOB.out.2.2.1 q hq e
                · rw [h] at e
                  have := (HOB.out.1.lt q hq).2
                  simp at e; omega
            clear ho' hg' hat C5
            go_wp2
            exact ⟨⟨k + 1, by omega, by norm_cast, HF⟩, by simp [intOf]; omega⟩
          | some q =>
            have hlk : (Instr.lookup 158 (.map (some w.heap.size)) (.int .i64 fi) true).run Tryz.prog W1 = .ok (.tuple #[.int .i64 q, .bool true]) W1 := by
              rw [run_look Tryz.underlying158 Tryz.underlying3 hz0 HM1.out fi]
              simp only [vgetZ, vget_kv, hig, Option.map_some, Option.getD_some, Option.isSome_some]
            have HSE : Hid (stepF H.g pc (limM B.os) St (fi, fo, fa) = (bindL H.g St.1 fo (-1) ((pc - q) * fa), St.2.1 ++ [(fi, fo, fa)], St.2.2)) := by show _ = _; simp only [stepF, hig]
            rw [HSE.out] at HST2
            obtain ⟨i0, hi0, hi1, hi2, hi3⟩ := info_parts Cal.infoF
            have h3 : (Tryz.prog.info? 163).map (·.size) = some (Cal.fC (fi, fo, fa)).toArray.size := by kernel_rfl
            have hun := Tryz.underlying163
            have hqb := lim_bd HBi.out hig
            have hmb := mul_bd (a := pc - q) (f := fa) (by omega) (by omega) hfb.1 hfb.2
            have hwr : IntKind.i64.wrap ((pc - q) * fa) = (pc - q) * fa := by rw [IntKind.wrap_i64]; omega
            have HBd : Hid _ := bind_hs W1 HRW.out fo (-1) ((pc - q) * fa) (by omega) (by omega)
            have hbxW : wr.heap.size ≠ X.bl := hbx
            clear hig HM1 HSE hmb
            go_wp2_with fail
            refine Calls.mono HBd.out ?_
            rintro e w4 ⟨rfl, L4, o4⟩
            have C4 : Chg (fun k => k = X.bl) W1 w4 := Chg.of_off o4 rfl
            have X4 : Blk w4 wr.heap.size (Cal.fC (fi, fo, fa)).toArray 163 := Blk.chg HXM.out C4 hbxW
            have HRW4 : Hid (Ha w4 X.p X.pl X.bl H.g (bindL H.g St.1 fo (-1) ((pc - q) * fa)) (.slice (some ⟨X.qm, 0, none⟩) H.g X.cm) (.slice (some ⟨X.qs, 0, none⟩) H.g H.g) H.now) := HRW.out.step L4 o4 (bindL_len _ _ _ _ _)
            have hz4 := o4.size
            have HOB4 : Hid (w4.ownsRow w2.heap.size 163 3 u10 St.2.1.length (Cal.fiL St.2.1) ∧ w4.ownsRow w2.heap.size 163 3 u11 St.2.2.length (Cal.fiL St.2.2) ∧ (∀ q, u10.ownBlock = some q → u11.ownBlock ≠ some q) ∧ Chg (fun q => q = X.bl) w2 w4) :=
              ⟨own_chg HOB.out.1 C4 (fun q hq e => own_unl HOB.out.1 HRW.out.lg.row (by decide) (e ▸ hq)), own_chg HOB.out.2.1 C4 (fun q hq e => own_unl HOB.out.2.1 HRW.out.lg.row (by decide) (e ▸ hq)), HOB.out.2.2.1, HOB.out.2.2.2.trans (fun q hq => Or.inl hq) C4⟩
            have y0 : w4.cell? ⟨wr.heap.size, 0, none⟩ = some (.int .i64 fi) := X4.cell rfl
            have y1 : w4.cell? ⟨wr.heap.size, 1, none⟩ = some (.int .i64 fo) := X4.cell rfl
            have y2 : w4.cell? ⟨wr.heap.size, 2, none⟩ = some (.int .i64 fa) := X4.cell rfl
            have hz2W := HOB4.out.2.2.2.size
            clear L4 o4 C4 X4 HBd x0 x1 x2 hlk
            go_wp2_with ((at_builtin; refine wpList_append_at rfl (.tmp 69) (.tmp 71) 159 rfl w2.heap.size 163 i0 (.agg #[.int .i64 0, .int .i64 0, .int .i64 0]) 3 24 Tryz.underlying159 hi0 hi1 hi2 hi3 rfl (by decide) _ _ _ rfl (World.ownsRow.alloc HOB4.out.1 _) ⟨w4.heap.size, 0, none⟩ 1 1 (Cal.fC (fi, fo, fa)) rfl rfl ?c1 ?c2 ?c3 ?c4 ?c5 ?_))
            case c1 =>
              intro j u hj
              rw [Addr.add_lit]
              refine (blk_new w4 w4.heap.size _ _ rfl).cell ?_
              simpa [Cal.fC] using hj
            case c2 => intro u hu; simp [Cal.fC] at hu; rcases hu with rfl | rfl | rfl <;> rfl
            case c3 => unfold maxLen; omega
            case c4 => omega
            case c5 => simp; omega
            intro v9 w5 ho' hg' hat
            have C5 := Chg.of_grown hg'
            have HF : Hid (w5.ownsRow w2.heap.size 163 3 v9 (clrS H.g H.l B (k + 1)).2.1.length (Cal.fiL (clrS H.g H.l B (k + 1)).2.1) ∧ w5.ownsRow w2.heap.size 163 3 u11 (clrS H.g H.l B (k + 1)).2.2.length (Cal.fiL (clrS H.g H.l B (k + 1)).2.2) ∧ (∀ q, (v9).ownBlock = some q → (u11).ownBlock ≠ some q) ∧ Ha w5 X.p X.pl X.bl H.g (clrS H.g H.l B (k + 1)).1 (.slice (some ⟨X.qm, 0, none⟩) H.g X.cm) (.slice (some ⟨X.qs, 0, none⟩) H.g H.g) H.now ∧ Chg (fun q => q = X.bl) w2 w5) := by
              show _
              rw [HST2.out]
              refine ⟨?_, own_chg HOB4.out.2.1 C5 (fun q hq e => HOB4.out.2.2.1 q e hq), fun q hq e => ?_, Ha.chg HRW4.out C5 (Elsw.row HOB4.out.1 (by decide)), HOB4.out.2.2.2.trans (fun q hq => Or.inr (HOB4.out.1.lt q hq).1) C5⟩
              · show World.ownsRow _ _ _ _ _ _ _
                rw [Cal.fiL_app, List.length_append, show Cal.fiL [(fi, fo, fa)] = Cal.fC (fi, fo, fa) by simp [Cal.fiL]]
                exact ho'
              · rcases hat with h | h
                · rw [h] at hq; exact HOB4.out.2.2.1 q hq e
                · rw [h] at hq
                  have := (HOB4.out.2.1.lt q e).2
                  simp at hq; omega
            clear ho' hg' hat C5
            go_wp2
            exact ⟨⟨k + 1, by omega, by norm_cast, HF⟩, by simp [intOf]; omega⟩
        · have hd : decide ((k : Int) < (B.fl.length : Int)) = false := by simp only [decide_eq_false_iff_not]; omega
          have hkk : k = B.fl.length := by omega
          subst hkk
          obtain ⟨e1, e2, e3, e4⟩ := clr_pos (g := H.g) (l := H.l) HBi.out
          have HSe : Hid _ := settle_hs wr HR.out.2.2.2.1 (Fw.of_own HR.out.1) (Fw.of_own HR.out.2.1) HR.out.2.2.1 e1 e2 (clr_even HBi.out) e3 e4 (i : Int) pc hcb.1 hcb.2 ⟨by omega, by omega⟩
          have HCL : Hid (clrL H.g i H.l B = setl H.g i pc ((clrS H.g H.l B B.fl.length).2.1.length + (clrS H.g H.l B B.fl.length).2.2.length) (clrS H.g H.l B B.fl.length).1 (clrS H.g H.l B B.fl.length).2.1 (clrS H.g H.l B B.fl.length).2.2) := by show _ = _; unfold clrL; rw [HPC.out]
          clear e1 e2 e3 e4
          go_wp2_with fail
          refine Calls.mono HSe.out ?_
          rintro e w6 ⟨rfl, A6, C6⟩
          rw [← HCL.out] at A6
          have HA6 : Hid _ := A6
          have HC6 : Hid _ := C6
          clear A6 C6 HSe
          go_wp2
          go_end0
          have hE : ∀ ts, 109 ∉ ts → 163 ∉ ts → Elsw wr (fun k => k = X.bl ∨ u10.ownBlock = some k ∨ u11.ownBlock = some k) ts := fun ts h1 h2 q cs t hq ht e => by
            rcases e with e | e | e
            · exact Elsw.one HR.out.2.2.2.1.lg.row h1 q cs t hq ht e
            · exact Elsw.row HR.out.1 h2 q cs t hq ht e
            · exact Elsw.row HR.out.2.1 h2 q cs t hq ht e
          have hE2 : ∀ ts, 109 ∉ ts → Elsw w2 (fun k => k = X.bl) ts := fun ts h1 => Elsw.one HA2.out.1.ha.lg.row h1
          have M6 : Mks w6 base H.g X.qm (X.bs.set i (b.1, v')) (H.ms.set i B.clr) := (HA2.out.1.mks.chg HR.out.2.2.2.2 (hE2 _ (by decide))).chg HC6.out (hE _ (by decide) (by decide))
          have S6 : Sls w6 base H.g X.qs X.sl H.ss := (HA2.out.1.sls.chg HR.out.2.2.2.2 (hE2 _ (by decide))).chg HC6.out (hE _ (by decide) (by decide))
          have H01 : Hst w wa X X := Hst.of_below HBA.out
          have C26 : Chg (fun k => k = X.bl) w2 w6 := HR.out.2.2.2.2.trans (E := fun k => k = X.bl ∨ u10.ownBlock = some k ∨ u11.ownBlock = some k) (fun q hq => by
            rcases hq with e | e | e
            · exact Or.inl e
            · exact Or.inr (HR.out.1.lt q e).1
            · exact Or.inr (HR.out.2.1.lt q e).1) HC6.out
          have H26 : Hst w2 w6 { X with bs := X.bs.set i (b.1, v') } { X with bs := X.bs.set i (b.1, v') } := ⟨⟨C26.os, C26.tape, C26.output, C26.size, fun q hq hn => C26.block q hq (fun e => hn (Or.inr (Or.inl e)))⟩, fun q hq => Or.inl hq⟩
          exact ⟨rfl, v', ⟨HA6.out, M6, S6, HH.out.b0, HH.out.n0, fun j x hx => by
            have := HH.out.ds j x hx
            show _ = (clrL H.g i H.l B).length ∧ _ ∧ _ < ((clrL H.g i H.l B).length : Int)
            rw [clrL_len]; exact this⟩, H01.trans (HA2.out.2.trans H26)⟩
end Go.Proofs.YtpekfpfhonechaaGreat
