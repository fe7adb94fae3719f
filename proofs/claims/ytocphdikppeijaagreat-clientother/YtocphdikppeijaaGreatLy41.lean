/- How many signed one thing. -/
import Derived.Test.YtocphdikppeijaaGreatLy15
import Derived.Test.YtocphdikppeijaaGreatLy11
namespace Go.Proofs.YtocphdikppeijaaGreat
open Go.RowKit
set_option linter.unusedSimpArgs false
set_option linter.unusedVariables false
variable {p b x y : Nat} {T : List ByteArray} {S : List (Int × ByteArray)}

/-- The 256 marks. -/
def cntL (f : Nat → Bool) : List Value := (List.range 256).map fun j => Value.bool (f j)
def cntA (f : Nat → Bool) : Array Value := (cntL f).toArray
theorem cntA_size (f : Nat → Bool) : (cntA f).size = 256 := by simp [cntA, cntL]
theorem cntA_get (f : Nat → Bool) (j : Nat) (h : j < 256) : (cntA f)[j]? = some (.bool (f j)) := by simp [cntA, cntL, h]
theorem cntA_set (f : Nat → Bool) (k : Nat) : (cntA f).setIfInBounds k (.bool true) = cntA (fun j => decide (j = k) || f j) := by
  apply Array.ext
  · simp [cntA_size]
  · intro i h1 h2
    by_cases h : k = i
    · subst h
      simp [cntA, cntL]
    · have h' : ¬ i = k := fun e => h e.symm
      rw [Array.getElem_setIfInBounds_ne (by simpa using h1) h]
      simp [cntA, cntL, h']
theorem infoCnt : (Tryz.prog.info? 134).map (fun i => (i.zero, i.size)) = some (some (.agg (cntA fun _ => false)), 256) := by kernel_rfl

theorem infoZB : (Tryz.prog.info? 54).map (fun i => (i.zero, i.size)) = some (some (zeroBd.val (.slice none 0 0)), 8) := by kernel_rfl
theorem openR_err {m : Sg} {er : Int} (h : openR S m = .error er) : er ≠ 0 := by
  unfold openR at h
  split at h
  · exact ofR_err h
  · injection h with h; omega
/-- Is a message a vote for this? -/
def vote (S : List (Int × ByteArray)) (kind view seq : Int) (dg : ByteArray) (m : Sg) : Bool :=
  match openR S m with
  | .ok d => decide (d.kind = kind) && decide (d.view = view) && decide (d.seq = seq) && decide (d.digest = dg)
  | .error _ => false
/-- Who has been counted behind one message more. -/
def qstep (g : Sg → Bool) (below : Int) (acc : List Int) (m : Sg) : List Int :=
  if isSg m.frm = true ∧ m.frm < below ∧ m.frm ∉ acc ∧ g m = true then acc ++ [m.frm] else acc
def qset (g : Sg → Bool) (below : Int) (l : List Sg) : List Int := l.foldl (qstep g below) []
theorem qset_take (g : Sg → Bool) (below : Int) (l : List Sg) (k : Nat) (h : k < l.length) : qset g below (l.take (k + 1)) = qstep g below (qset g below (l.take k)) l[k] := by
  unfold qset
  rw [List.take_succ_eq_append_getElem h, List.foldl_append]; rfl
/-- The marks of who has been counted. -/
def marks (acc : List Int) (j : Nat) : Bool := decide ((j : Int) ∈ acc)

theorem marks_snoc (acc : List Int) (f : Nat) (z : Int) (h : z = f) : marks (acc ++ [z]) = fun j => decide (j = f) || marks acc j := by
  funext j
  unfold marks
  subst h
  by_cases h1 : (j : Int) ∈ acc
  · simp [h1]
  · by_cases h2 : j = f
    · simp [h2]
    · have : ¬ (j : Int) = (f : Int) := by omega
      simp [h1, h2, this]

set_option maxHeartbeats 1000000 in
set_option maxRecDepth 100000 in
theorem quorum_calls (lv : Value) (l : List Sg) (kind view seq : Int) (dg : ByteArray) (below : Int) (w : World) (h : Book w p b x y T S) (hS : S.length < 1000000) (hl : Sgs w lv l) (hlen : l.length < 1000000) :
    Calls Tryz.prog 29 #[.pointer (some ⟨p, 0, none⟩), lv, .int .i64 kind, .int .i64 view, .int .i64 seq, .string dg, .int .i64 below] w
      fun e w' => e = .returned (.int .i64 (qset (vote S kind view seq dg) below l).length) ∧ Below w.heap.size w w' := by
  obtain ⟨hz0, hz1⟩ := zero_of_info infoCnt
  rcases hl with ⟨⟨pz, cz, rfl⟩, rfl⟩ | ⟨g, off, cap, rfl, hc⟩
  · go_enter Tryz.func29, Tryz.ntmps29
    go_wp2
    refine wp_loop_rounds 1 ?_
    rw [rounds_succ]
    go_wp2
    go_ret
    exact ⟨rfl, by go_grown⟩
  · have HC : Hid _ := hc
    clear hc
    go_enter Tryz.func29, Tryz.ntmps29
    go_wp2
    have hbo := h.lts
    go_loopw [16, 23] (fun c i wr => ∃ k : Nat, k ≤ l.length ∧ i = .int .i64 k ∧ c = .int .i64 (qset (vote S kind view seq dg) below (l.take k)).length ∧ (qset (vote S kind view seq dg) below (l.take k)).length ≤ k ∧ Blk wr w.heap.size (cntA (marks (qset (vote S kind view seq dg) below (l.take k)))) 134 ∧ Below w.heap.size w wr) (fun _ i _ => l.length - (intOf i).toNat)
    case atStart => exact ⟨0, Nat.zero_le _, rfl, rfl, Nat.le_refl _, blk_new _ _ _ _ rfl, (Below.refl _ _).alloc (Nat.le_refl _) _⟩
    case round =>
      obtain ⟨k, hk, rfl, rfl, hal, hB, hb⟩ := hrel
      have hz := hb.size
      have hBl := hB.lt
      by_cases hlt : k < l.length
      · have hd : decide ((k : Int) < l.length) = true := by simp only [decide_eq_true_eq]; omega
        obtain ⟨c1, c2, c3, z1, z2⟩ := HC.out k hlt
        have hbl := World.block_lt_of_cell? w _ c1
        have d1 := (hb.cell (p := ⟨g, off + k * 3, none⟩) hbl).trans c1
        have d2 := (hb.cell (p := ⟨g, off + k * 3 + 1, none⟩) hbl).trans c2
        have d3 := (hb.cell (p := ⟨g, off + k * 3 + 2, none⟩) hbl).trans c3
        have ht := qset_take (vote S kind view seq dg) below l k hlt
        generalize qset (vote S kind view seq dg) below (l.take k) = acc at *
        obtain ⟨ac2, h2⟩ : ∃ a, qset (vote S kind view seq dg) below (l.take (k + 1)) = a := ⟨_, rfl⟩
        rw [h2] at ht
        have HT : Hid _ := ht
        have H2 : Hid _ := h2
        have HK := h.below hb
        generalize hM : l[k] = m at *
        clear c1 c2 c3 ht h2
        obtain ⟨W1, hW1, XM, B1, Z1⟩ : ∃ W1, (wr.alloc (.cells #[.int .i64 m.frm, .string m.body, .string m.sig] 49)) = W1 ∧ Blk W1 wr.heap.size m.cells 49 ∧ Below wr.heap.size wr W1 ∧ W1.heap.size = wr.heap.size + 1 :=
          ⟨_, rfl, blk_new _ _ _ _ rfl, by go_grown, by simp⟩
        have e0 : W1.cell? ⟨wr.heap.size, 0, none⟩ = some (.int .i64 m.frm) := XM.cell rfl
        have hi := isSigner_calls m.frm W1
        cases hsg : isSg m.frm
        · rw [hsg] at hi
          have hq : qstep (vote S kind view seq dg) below acc m = acc := by unfold qstep; rw [if_neg (by simp [hsg])]
          go_wp2_with fail
          refine hi.mono ?_
          rintro e w1 ⟨rfl, rfl⟩
          go_wp2
          refine ⟨⟨k + 1, by omega, by norm_cast, ?_, ?_, ?_, ?_⟩, ?_⟩
          · rw [H2.out, HT.out, hq]
          · rw [H2.out, HT.out, hq]; omega
          · rw [H2.out, HT.out, hq]; exact hB.below B1
          · exact hb.trans (B1.mono hz)
          · simp [intOf]; omega
        · rw [hsg] at hi
          obtain ⟨f, hf, hf2⟩ : ∃ f : Nat, m.frm = (f : Int) ∧ f < 256 := by
            unfold isSg at hsg
            simp only [decide_eq_true_eq] at hsg
            exact ⟨m.frm.toNat, by omega, by omega⟩
          have hfv : Hid (m.frm = (f : Int)) := hf
          rw [hf] at e0 hi hW1 d1
          have hmk : W1.cell? ⟨w.heap.size, f, none⟩ = some (.bool (marks acc f)) := (hB.below B1).cell (cntA_get _ f hf2)
          by_cases hbl2 : below ≤ (f : Int)
          · have hdb : decide (below ≤ (f : Int)) = true := decide_eq_true hbl2
            have hq : qstep (vote S kind view seq dg) below acc m = acc := by unfold qstep; rw [if_neg (by rw [hf]; omega)]
            go_wp2_with fail
            refine hi.mono ?_
            rintro e w1 ⟨rfl, rfl⟩
            go_wp2
            refine ⟨⟨k + 1, by omega, by norm_cast, ?_, ?_, ?_, ?_⟩, ?_⟩
            · rw [H2.out, HT.out, hq]
            · rw [H2.out, HT.out, hq]; omega
            · rw [H2.out, HT.out, hq]; exact hB.below B1
            · exact hb.trans (B1.mono hz)
            · simp [intOf]; omega
          · have hdb : decide (below ≤ (f : Int)) = false := decide_eq_false hbl2
            cases hmm : marks acc f
            · rw [hmm] at hmk
              have ho := open_calls m W1 (HK.below B1) hS z1
              have HO : Hid _ := ho
              clear ho
              have hsz : (Tryz.prog.info? 49).map (·.size) = some m.cells.size := Sg.info m
              have hun := Tryz.underlying49
              have HV : Hid (vote S kind view seq dg m = match openR S m with | .ok d => decide (d.kind = kind) && decide (d.view = view) && decide (d.seq = seq) && decide (d.digest = dg) | .error _ => false) := rfl
              cases hor : openR S m with
              | error er =>
                rw [hor] at HO HV
                have hq : qstep (vote S kind view seq dg) below acc m = acc := by unfold qstep; rw [if_neg (by rw [HV.out]; simp)]
                go_wp2_with fail
                refine hi.mono ?_
                rintro e w1 ⟨rfl, rfl⟩
                go_wp2_with ((with_reducible refine rd_row (ty := 49) XM hun rfl hsz ?_ ?_); rfl)
                refine Calls.mono HO.out ?_
                rintro e w2 ⟨rfl, hb2⟩
                have hz2 := hb2.size
                unfold zeroBd Bd.val
                have hne0 : (er == 0) = false := by simpa using openR_err hor
                have hne1 : ¬ er = 0 := openR_err hor
                go_wp2
                refine ⟨⟨k + 1, by omega, by norm_cast, ?_, ?_, ?_, ?_⟩, ?_⟩
                · rw [H2.out, HT.out, hq]
                · rw [H2.out, HT.out, hq]; omega
                · rw [H2.out, HT.out, hq]; exact ((hB.below B1).below hb2).alloc _
                · exact (hb.trans ((B1.trans (hb2.mono (by omega))).mono hz)).alloc (by omega) _
                · simp [intOf]; omega
              | ok d =>
                rw [hor] at HO HV
                have hof : m.frm ∉ acc := by rw [hf]; unfold marks at hmm; simpa using hmm
                obtain ⟨K1, hK1⟩ : ∃ B, decide (d.kind = kind) = B := ⟨_, rfl⟩
                obtain ⟨K2, hK2⟩ : ∃ B, decide (d.view = view) = B := ⟨_, rfl⟩
                obtain ⟨K3, hK3⟩ : ∃ B, decide (d.seq = seq) = B := ⟨_, rfl⟩
                obtain ⟨K4, hK4⟩ : ∃ B, (d.digest.toList == dg.toList) = B := ⟨_, rfl⟩
                have HV2 : Hid (vote S kind view seq dg m = (K1 && K2 && K3 && K4)) := by show _ = _; rw [HV.out, ← hK1, ← hK2, ← hK3, ← hK4, strEq]
                go_wp2_with fail
                refine hi.mono ?_
                rintro e w1 ⟨rfl, rfl⟩
                go_wp2_with ((with_reducible refine rd_row (ty := 49) XM hun rfl hsz ?_ ?_); rfl)
                refine Calls.mono HO.out ?_
                rintro e w2 ⟨lv, rfl, hown, hb2⟩
                obtain ⟨pp, cp, rfl⟩ := sgs_of_own' hown
                have hz2 := hb2.size
                obtain ⟨W3, hW3, X3, B3, Z3⟩ : ∃ W3, (w2.alloc (.cells #[.int .i64 d.kind, .int .i64 d.view, .int .i64 d.seq, .int .i64 d.client, .int .i64 d.stamp, .string d.digest, .string d.text, .slice pp d.list.length cp] 54)) = W3 ∧ Blk W3 w2.heap.size (d.cells (.slice pp d.list.length cp)) 54 ∧ Below w2.heap.size w2 W3 ∧ W3.heap.size = w2.heap.size + 1 :=
                  ⟨_, rfl, blk_new _ _ _ _ rfl, by go_grown, by simp⟩
                have B13 : Below wr.heap.size wr W3 := (B1.trans (hb2.mono (by omega))).trans (B3.mono (by omega))
                have x0 : W3.cell? ⟨w2.heap.size, 0, none⟩ = some (.int .i64 d.kind) := X3.cell rfl
                have x1 : W3.cell? ⟨w2.heap.size, 1, none⟩ = some (.int .i64 d.view) := X3.cell rfl
                have x2 : W3.cell? ⟨w2.heap.size, 2, none⟩ = some (.int .i64 d.seq) := X3.cell rfl
                have x5 : W3.cell? ⟨w2.heap.size, 5, none⟩ = some (.string d.digest) := X3.cell rfl
                have M3 : Blk W3 wr.heap.size m.cells 49 := (XM.below hb2).below B3
                have m0 : W3.cell? ⟨wr.heap.size, 0, none⟩ = some (.int .i64 f) := hfv.out ▸ M3.cell (o := 0) (v := .int .i64 m.frm) rfl
                have C3 := (hB.below B13)
                have mk3 : W3.cell? ⟨w.heap.size, f, none⟩ = some (.bool false) := by rw [← hmm]; exact C3.cell (cntA_get _ f hf2)
                have fr3 : W3.frozen? ⟨w.heap.size, f, none⟩ = false := C3.frozen
                have BW : Below w.heap.size w W3 := hb.trans (B13.mono hz)
                have k1 : (d.kind == kind) = K1 := by rw [← hK1]; rfl
                have k2 : (d.view == view) = K2 := by rw [← hK2]; rfl
                have k3 : (d.seq == seq) = K3 := by rw [← hK3]; rfl
                unfold Bd.val
                cases K1
                · have hq : qstep (vote S kind view seq dg) below acc m = acc := by unfold qstep; rw [if_neg (by rw [HV2.out]; simp)]
                  go_wp2
                  refine ⟨⟨k + 1, by omega, by norm_cast, ?_, ?_, ?_, ?_⟩, ?_⟩
                  · rw [H2.out, HT.out, hq]
                  · rw [H2.out, HT.out, hq]; omega
                  · rw [H2.out, HT.out, hq]; exact C3
                  · exact BW
                  · simp [intOf]; omega
                cases K2
                · have hq : qstep (vote S kind view seq dg) below acc m = acc := by unfold qstep; rw [if_neg (by rw [HV2.out]; simp)]
                  go_wp2
                  refine ⟨⟨k + 1, by omega, by norm_cast, ?_, ?_, ?_, ?_⟩, ?_⟩
                  · rw [H2.out, HT.out, hq]
                  · rw [H2.out, HT.out, hq]; omega
                  · rw [H2.out, HT.out, hq]; exact C3
                  · exact BW
                  · simp [intOf]; omega
                cases K3
                · have hq : qstep (vote S kind view seq dg) below acc m = acc := by unfold qstep; rw [if_neg (by rw [HV2.out]; simp)]
                  go_wp2
                  refine ⟨⟨k + 1, by omega, by norm_cast, ?_, ?_, ?_, ?_⟩, ?_⟩
                  · rw [H2.out, HT.out, hq]
                  · rw [H2.out, HT.out, hq]; omega
                  · rw [H2.out, HT.out, hq]; exact C3
                  · exact BW
                  · simp [intOf]; omega
                cases K4
                · have hq : qstep (vote S kind view seq dg) below acc m = acc := by unfold qstep; rw [if_neg (by rw [HV2.out]; simp)]
                  go_wp2
                  refine ⟨⟨k + 1, by omega, by norm_cast, ?_, ?_, ?_, ?_⟩, ?_⟩
                  · rw [H2.out, HT.out, hq]
                  · rw [H2.out, HT.out, hq]; omega
                  · rw [H2.out, HT.out, hq]; exact C3
                  · exact BW
                  · simp [intOf]; omega
                have hq : qstep (vote S kind view seq dg) below acc m = acc ++ [m.frm] := by unfold qstep; rw [if_pos ⟨hsg, by rw [hf]; omega, hof, by rw [HV2.out]; rfl⟩]
                have hal2 : acc.length < 1000000 := by omega
                go_wp2
                refine ⟨⟨k + 1, by omega, by norm_cast, ?_, ?_, ?_, ?_⟩, ?_⟩
                · rw [H2.out, HT.out, hq]; simp
                · rw [H2.out, HT.out, hq]; simp; omega
                · rw [H2.out, HT.out, hq]; rw [marks_snoc acc f m.frm hfv.out, ← cntA_set]; exact C3.set f _
                · exact BW.setCell (p := ⟨w.heap.size, f, none⟩) (Nat.le_refl _) _
                · simp [intOf]; omega
            · rw [hmm] at hmk
              have hq : qstep (vote S kind view seq dg) below acc m = acc := by unfold qstep; rw [if_neg (by rw [hf]; unfold marks at hmm; simp only [decide_eq_true_eq] at hmm; simp [hmm])]
              go_wp2_with fail
              refine hi.mono ?_
              rintro e w1 ⟨rfl, rfl⟩
              go_wp2
              refine ⟨⟨k + 1, by omega, by norm_cast, ?_, ?_, ?_, ?_⟩, ?_⟩
              · rw [H2.out, HT.out, hq]
              · rw [H2.out, HT.out, hq]; omega
              · rw [H2.out, HT.out, hq]; exact hB.below B1
              · exact hb.trans (B1.mono hz)
              · simp [intOf]; omega
      · have hd : decide ((k : Int) < l.length) = false := by simp only [decide_eq_false_iff_not]; omega
        have htk : l.take k = l := List.take_of_length_le (by omega)
        rw [htk] at *
        go_wp2
        go_ret
        exact ⟨rfl, hb⟩
end Go.Proofs.YtocphdikppeijaaGreat
