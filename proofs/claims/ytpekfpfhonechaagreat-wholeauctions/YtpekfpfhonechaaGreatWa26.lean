/- Amend. -/
import Derived.Test.YtpekfpfhonechaaGreatWa25
namespace Go.Proofs.YtpekfpfhonechaaGreat.Cal
open Go.Shelf Go.RowKit Go.Lib Go.Sort
set_option linter.unusedSimpArgs false
set_option linter.unusedVariables false
variable {base p : Nat} {v : Value} {B : Bo}

def Od.amd (o : Od) (pr am : Int) : Od := (o.1, o.2.1, pr, am, o.2.2.2.2.1, o.2.2.2.2.2)
/-- What becomes of an order that is amended. -/
def Bo.amd (B : Bo) (i : Nat) (o : Od) (pr am : Int) : Int × Bo :=
  if mayB (o.amd pr am) = false then (1, B) else if pr = o.pr ∧ am ≤ o.am then (0, ⟨B.nx, B.os.set i (o.amd pr am)⟩) else if B.nx = 9007199254740992 then (2, B) else (0, (B.rem i).stand (o.amd pr am))
def Bo.amend (B : Bo) (x y pr am : Int) : Int × Bo := if fnd B.os x < 0 then (3, B) else if (gtB B.os x).1.own = y then B.amd (fnd B.os x).toNat (gtB B.os x).1 pr am else (80, B)
theorem set_same {α : Type} {l : List α} {i : Nat} {a : α} (h : l[i]? = some a) : l.set i a = l := by
  have hi := List.getElem?_eq_some_iff.1 h
  rw [← hi.2, List.set_getElem_self]
theorem BInv.set (h : BInv B) {i : Nat} {o q : Od} (ho : B.os[i]? = some o) (hid : q.id = o.id) (hpl : q.pl = o.pl) (hm : mayB q = true) : BInv ⟨B.nx, B.os.set i q⟩ := by
  have hi := (List.getElem?_eq_some_iff.1 ho).1
  have hoe := (List.getElem?_eq_some_iff.1 ho).2
  have hmem : ∀ x ∈ B.os.set i q, x ∈ B.os ∨ x = q := fun x hx => List.mem_or_eq_of_mem_set hx
  have e1 : (B.os.set i q).map Od.id = B.os.map Od.id := by
    rw [List.map_set, hid]
    have : (B.os.map Od.id)[i]? = some o.id := by rw [List.getElem?_map, ho]; rfl
    exact set_same this
  have e2 : (B.os.set i q).map Od.pl = B.os.map Od.pl := by
    rw [List.map_set, hpl]
    have : (B.os.map Od.pl)[i]? = some o.pl := by rw [List.getElem?_map, ho]; rfl
    exact set_same this
  refine ⟨h.nx1, h.nx2, by show (B.os.set i q).length ≤ 64; rw [List.length_set]; exact h.len, ?_, ?_, ?_, ?_⟩
  · intro x hx
    rcases hmem x hx with e | e
    · exact h.may x e
    · rw [e]; exact hm
  · show (B.os.set i q).Pairwise _
    have := h.nodup
    rw [← e1] at this
    unfold List.Nodup at this
    rwa [List.pairwise_map] at this
  · show (B.os.set i q).Pairwise _
    have h2 : (B.os.map Od.pl).Pairwise (fun a b => a < b) := by rw [List.pairwise_map]; exact h.pls
    rw [← e2, List.pairwise_map] at h2
    exact h2
  · intro x hx
    rcases hmem x hx with e | e
    · exact h.pl x e
    · rw [e, hpl]; exact h.pl o (List.mem_of_getElem? ho)
theorem BInv.move (h : BInv B) {i : Nat} {o q : Od} (ho : B.os[i]? = some o) (hid : q.id = o.id) (hm : mayB q = true) (hn : B.nx ≠ 9007199254740992) : BInv ((B.rem i).stand q) := by
  have hi := (List.getElem?_eq_some_iff.1 ho).1
  refine (h.rem i).stand q hm ?_ ?_ hn
  · intro x hx e
    have h1 := List.mem_eraseIdx_iff_getElem.1 hx
    obtain ⟨j, hj, hji, hx2⟩ := h1
    have hx3 : B.os[j]? = some x := by rw [← hx2]; simp [hj]
    have := h.same (List.mem_of_getElem? hx3) (List.mem_of_getElem? ho) (by rw [e, hid])
    subst this
    have hn := h.nodup
    have a1 : (B.os.map Od.id)[j]? = some x.id := by rw [List.getElem?_map, hx3]; rfl
    have a2 : (B.os.map Od.id)[i]? = some x.id := by rw [List.getElem?_map, ho]; rfl
    have b1 : j < (B.os.map Od.id).length := by simpa using hj
    exact hji ((List.getElem?_inj b1 hn).1 (by rw [a1, a2]))
  · show (B.os.eraseIdx i).length < 64
    rw [List.length_eraseIdx_of_lt hi]
    have := h.len
    omega

set_option maxHeartbeats 8000000 in
set_option maxRecDepth 100000 in
theorem amend_bada (o : Od) (i : Nat) (pr am : Int) (w : World) (h : Bk w base p v B) (hB : base ≤ w.heap.size) (hf : fnd B.os o.id = i) (ho : B.os[i]? = some o) (hm : mayB (o.amd pr am) = false) (hs1 : pr = o.pr) (hs2 : am ≤ o.am) : Calls Tryz.prog 85 #[.pointer (some ⟨p, 0, none⟩), .int .i64 o.id, .int .i64 o.own, .int .i64 pr, .int .i64 am] w fun e w' => e = .returned (.int .i64 1) ∧ ∃ v', Bst w w' base p v v' B := by
  have hlen := h.inv.len
  have h4 : i < B.os.length := (List.getElem?_eq_some_iff.1 ho).1
  have HOW : Hid _ := owned_some o.id o.own w h i o hf ho ((i : Int), 0) (by rw [if_pos rfl])
  have HH : Hid _ := h
  have HO : Hid _ := ho
  obtain ⟨g, cap, hgc⟩ : ∃ g cap, v = .slice (some ⟨g, 0, none⟩) B.os.length cap := by
    rcases h.row.2 with ⟨_, h0⟩ | ⟨g, cap, cur, hv, _⟩
    · exfalso; omega
    · exact ⟨g, cap, hv⟩
  subst hgc
  have hgp : g ≠ p := fun e => h.ne (by rw [e]; rfl)
  have hi0 : (0 : Int) ≤ (i : Int) := by omega
  have hi1 : (i : Int) < (B.os.length : Int) := by omega
  have hMB := fun w => mayBe_calls (o.amd pr am) w
  have HMB : Hid (∀ w, Calls Tryz.prog 110 #[.agg #[.int .i64 o.id, .int .i64 o.own, .int .i64 pr, .int .i64 am, .int .i64 o.pl, .bool o.by]] w fun e w' => e = .returned (.bool (mayB (o.amd pr am))) ∧ Gr w w') := fun w => hMB w
  clear h hf ho hMB
  rw [hm] at HMB
  have s1 : (pr == o.pr) = true := by simpa using hs1
  have s2 : decide (am ≤ o.am) = true := decide_eq_true hs2
  have HS1 : Hid _ := hs1
  clear hs1
  clear hm
  go_enter Tryz.func85, Tryz.ntmps85
  go_wp2_with fail
  refine Calls.mono HOW.out ?_
  rintro e w1 ⟨rfl, b1⟩
  have K1 := Bk.below HH.out b1
  have c1 : w1.cell? ⟨p, 1, none⟩ = some (.slice (some ⟨g, 0, none⟩) B.os.length cap) := K1.blk.cell rfl
  obtain ⟨d0, d1, d2, d3, d4, d5⟩ : w1.cell? ⟨g, i * 6, none⟩ = some (.int .i64 o.id) ∧ w1.cell? ⟨g, i * 6 + 1, none⟩ = some (.int .i64 o.own) ∧ w1.cell? ⟨g, i * 6 + 2, none⟩ = some (.int .i64 o.pr) ∧ w1.cell? ⟨g, i * 6 + 3, none⟩ = some (.int .i64 o.am) ∧ w1.cell? ⟨g, i * 6 + 4, none⟩ = some (.int .i64 o.pl) ∧ w1.cell? ⟨g, i * 6 + 5, none⟩ = some (.bool o.by) := by
    have hc := K1.row.cells (g := g) rfl
    have key : ∀ j u, (oC o)[j]? = some u → w1.cell? ⟨g, i * 6 + j, none⟩ = some u := fun j u hu => by
      have := hc (i * 6 + j) u (odL_get _ i j o u HO.out hu)
      rwa [Addr.add_lit, Nat.zero_add] at this
    exact ⟨key 0 _ rfl, key 1 _ rfl, key 2 _ rfl, key 3 _ rfl, key 4 _ rfl, key 5 _ rfl⟩
  obtain ⟨W1, hW1, X1, B1, Z1⟩ : ∃ W1, (w1.alloc (.cells #[.int .i64 o.id, .int .i64 o.own, .int .i64 o.pr, .int .i64 o.am, .int .i64 o.pl, .bool o.by] 51)) = W1 ∧ Blk W1 w1.heap.size #[.int .i64 o.id, .int .i64 o.own, .int .i64 o.pr, .int .i64 o.am, .int .i64 o.pl, .bool o.by] 51 ∧ Below w1.heap.size w1 W1 ∧ W1.heap.size = w1.heap.size + 1 :=
    ⟨_, rfl, blk_new _ _ _ _ rfl, by go_grown, by simp⟩
  obtain ⟨W2, hW2, X2, B2⟩ : ∃ W2, W1.setCell ⟨w1.heap.size, 2, none⟩ (.int .i64 pr) = W2 ∧ Blk W2 w1.heap.size #[.int .i64 o.id, .int .i64 o.own, .int .i64 pr, .int .i64 o.am, .int .i64 o.pl, .bool o.by] 51 ∧ Below w1.heap.size w1 W2 := ⟨_, rfl, X1.set 2 _, B1.setCell (by simp) _⟩
  obtain ⟨W3, hW3, X3, B3⟩ : ∃ W3, W2.setCell ⟨w1.heap.size, 3, none⟩ (.int .i64 am) = W3 ∧ Blk W3 w1.heap.size #[.int .i64 o.id, .int .i64 o.own, .int .i64 pr, .int .i64 am, .int .i64 o.pl, .bool o.by] 51 ∧ Below w1.heap.size w1 W3 := ⟨_, rfl, X2.set 3 _, B2.setCell (by simp) _⟩
  have p2 : W1.cell? ⟨w1.heap.size, 2, none⟩ = some (.int .i64 o.pr) := X1.cell rfl
  have p3 : W1.cell? ⟨w1.heap.size, 3, none⟩ = some (.int .i64 o.am) := X1.cell rfl
  have g1 : W1.frozen? ⟨w1.heap.size, 2, none⟩ = false := X1.frozen
  have p4 : W2.cell? ⟨w1.heap.size, 3, none⟩ = some (.int .i64 o.am) := X2.cell rfl
  have g2 : W2.frozen? ⟨w1.heap.size, 3, none⟩ = false := X2.frozen
  have z3 := B3.size
  have hun := Tryz.underlying51
  have h6 : (Tryz.prog.info? 51).map (·.size) = some (#[Value.int .i64 o.id, .int .i64 o.own, .int .i64 pr, .int .i64 am, .int .i64 o.pl, .bool o.by]).size := infoO6 (o.amd pr am)
  have HB13 : Hid (Below w.heap.size w W3) := b1.trans (B3.mono b1.size)
  have HX3 : Hid _ := X3
  have x0 : W3.cell? ⟨w1.heap.size, 0, none⟩ = some (.int .i64 o.id) := X3.cell rfl
  have x1 : W3.cell? ⟨w1.heap.size, 1, none⟩ = some (.int .i64 o.own) := X3.cell rfl
  have x2 : W3.cell? ⟨w1.heap.size, 2, none⟩ = some (.int .i64 pr) := X3.cell rfl
  have x3 : W3.cell? ⟨w1.heap.size, 3, none⟩ = some (.int .i64 am) := X3.cell rfl
  have x4 : W3.cell? ⟨w1.heap.size, 4, none⟩ = some (.int .i64 o.pl) := X3.cell rfl
  have x5 : W3.cell? ⟨w1.heap.size, 5, none⟩ = some (.bool o.by) := X3.cell rfl
  clear K1 Z1 X1 X2 X3
  go_wp2_with fail
  refine Calls.mono (HMB.out W3) ?_
  rintro e w2 ⟨rfl, g3⟩
  go_wp2
  go_ret
  exact ⟨rfl, _, Bst.same HH.out (HB13.out.trans (g3.below.mono HB13.out.size))⟩

set_option maxHeartbeats 8000000 in
set_option maxRecDepth 100000 in
theorem amend_stay (o : Od) (i : Nat) (pr am : Int) (w : World) (h : Bk w base p v B) (hB : base ≤ w.heap.size) (hf : fnd B.os o.id = i) (ho : B.os[i]? = some o) (hm : mayB (o.amd pr am) = true) (hs1 : pr = o.pr) (hs2 : am ≤ o.am) : Calls Tryz.prog 85 #[.pointer (some ⟨p, 0, none⟩), .int .i64 o.id, .int .i64 o.own, .int .i64 pr, .int .i64 am] w fun e w' => e = .returned (.int .i64 0) ∧ ∃ v', Bst w w' base p v v' ⟨B.nx, B.os.set i (o.amd pr am)⟩ := by
  have hlen := h.inv.len
  have h4 : i < B.os.length := (List.getElem?_eq_some_iff.1 ho).1
  have HOW : Hid _ := owned_some o.id o.own w h i o hf ho ((i : Int), 0) (by rw [if_pos rfl])
  have HH : Hid _ := h
  have HO : Hid _ := ho
  obtain ⟨g, cap, hgc⟩ : ∃ g cap, v = .slice (some ⟨g, 0, none⟩) B.os.length cap := by
    rcases h.row.2 with ⟨_, h0⟩ | ⟨g, cap, cur, hv, _⟩
    · exfalso; omega
    · exact ⟨g, cap, hv⟩
  subst hgc
  have hgp : g ≠ p := fun e => h.ne (by rw [e]; rfl)
  have hi0 : (0 : Int) ≤ (i : Int) := by omega
  have hi1 : (i : Int) < (B.os.length : Int) := by omega
  have hMB := fun w => mayBe_calls (o.amd pr am) w
  have HMB : Hid (∀ w, Calls Tryz.prog 110 #[.agg #[.int .i64 o.id, .int .i64 o.own, .int .i64 pr, .int .i64 am, .int .i64 o.pl, .bool o.by]] w fun e w' => e = .returned (.bool (mayB (o.amd pr am))) ∧ Gr w w') := fun w => hMB w
  clear h hf ho hMB
  rw [hm] at HMB
  have s1 : (pr == o.pr) = true := by simpa using hs1
  have s2 : decide (am ≤ o.am) = true := decide_eq_true hs2
  have HS1 : Hid _ := hs1
  clear hs1
  have HI : Hid (BInv ⟨B.nx, B.os.set i (o.amd pr am)⟩) := HH.out.inv.set HO.out rfl rfl hm
  clear hm
  go_enter Tryz.func85, Tryz.ntmps85
  go_wp2_with fail
  refine Calls.mono HOW.out ?_
  rintro e w1 ⟨rfl, b1⟩
  have K1 := Bk.below HH.out b1
  have c1 : w1.cell? ⟨p, 1, none⟩ = some (.slice (some ⟨g, 0, none⟩) B.os.length cap) := K1.blk.cell rfl
  obtain ⟨d0, d1, d2, d3, d4, d5⟩ : w1.cell? ⟨g, i * 6, none⟩ = some (.int .i64 o.id) ∧ w1.cell? ⟨g, i * 6 + 1, none⟩ = some (.int .i64 o.own) ∧ w1.cell? ⟨g, i * 6 + 2, none⟩ = some (.int .i64 o.pr) ∧ w1.cell? ⟨g, i * 6 + 3, none⟩ = some (.int .i64 o.am) ∧ w1.cell? ⟨g, i * 6 + 4, none⟩ = some (.int .i64 o.pl) ∧ w1.cell? ⟨g, i * 6 + 5, none⟩ = some (.bool o.by) := by
    have hc := K1.row.cells (g := g) rfl
    have key : ∀ j u, (oC o)[j]? = some u → w1.cell? ⟨g, i * 6 + j, none⟩ = some u := fun j u hu => by
      have := hc (i * 6 + j) u (odL_get _ i j o u HO.out hu)
      rwa [Addr.add_lit, Nat.zero_add] at this
    exact ⟨key 0 _ rfl, key 1 _ rfl, key 2 _ rfl, key 3 _ rfl, key 4 _ rfl, key 5 _ rfl⟩
  obtain ⟨W1, hW1, X1, B1, Z1⟩ : ∃ W1, (w1.alloc (.cells #[.int .i64 o.id, .int .i64 o.own, .int .i64 o.pr, .int .i64 o.am, .int .i64 o.pl, .bool o.by] 51)) = W1 ∧ Blk W1 w1.heap.size #[.int .i64 o.id, .int .i64 o.own, .int .i64 o.pr, .int .i64 o.am, .int .i64 o.pl, .bool o.by] 51 ∧ Below w1.heap.size w1 W1 ∧ W1.heap.size = w1.heap.size + 1 :=
    ⟨_, rfl, blk_new _ _ _ _ rfl, by go_grown, by simp⟩
  obtain ⟨W2, hW2, X2, B2⟩ : ∃ W2, W1.setCell ⟨w1.heap.size, 2, none⟩ (.int .i64 pr) = W2 ∧ Blk W2 w1.heap.size #[.int .i64 o.id, .int .i64 o.own, .int .i64 pr, .int .i64 o.am, .int .i64 o.pl, .bool o.by] 51 ∧ Below w1.heap.size w1 W2 := ⟨_, rfl, X1.set 2 _, B1.setCell (by simp) _⟩
  obtain ⟨W3, hW3, X3, B3⟩ : ∃ W3, W2.setCell ⟨w1.heap.size, 3, none⟩ (.int .i64 am) = W3 ∧ Blk W3 w1.heap.size #[.int .i64 o.id, .int .i64 o.own, .int .i64 pr, .int .i64 am, .int .i64 o.pl, .bool o.by] 51 ∧ Below w1.heap.size w1 W3 := ⟨_, rfl, X2.set 3 _, B2.setCell (by simp) _⟩
  have p2 : W1.cell? ⟨w1.heap.size, 2, none⟩ = some (.int .i64 o.pr) := X1.cell rfl
  have p3 : W1.cell? ⟨w1.heap.size, 3, none⟩ = some (.int .i64 o.am) := X1.cell rfl
  have g1 : W1.frozen? ⟨w1.heap.size, 2, none⟩ = false := X1.frozen
  have p4 : W2.cell? ⟨w1.heap.size, 3, none⟩ = some (.int .i64 o.am) := X2.cell rfl
  have g2 : W2.frozen? ⟨w1.heap.size, 3, none⟩ = false := X2.frozen
  have z3 := B3.size
  have hun := Tryz.underlying51
  have h6 : (Tryz.prog.info? 51).map (·.size) = some (#[Value.int .i64 o.id, .int .i64 o.own, .int .i64 pr, .int .i64 am, .int .i64 o.pl, .bool o.by]).size := infoO6 (o.amd pr am)
  have HB13 : Hid (Below w.heap.size w W3) := b1.trans (B3.mono b1.size)
  have HX3 : Hid _ := X3
  have x0 : W3.cell? ⟨w1.heap.size, 0, none⟩ = some (.int .i64 o.id) := X3.cell rfl
  have x1 : W3.cell? ⟨w1.heap.size, 1, none⟩ = some (.int .i64 o.own) := X3.cell rfl
  have x2 : W3.cell? ⟨w1.heap.size, 2, none⟩ = some (.int .i64 pr) := X3.cell rfl
  have x3 : W3.cell? ⟨w1.heap.size, 3, none⟩ = some (.int .i64 am) := X3.cell rfl
  have x4 : W3.cell? ⟨w1.heap.size, 4, none⟩ = some (.int .i64 o.pl) := X3.cell rfl
  have x5 : W3.cell? ⟨w1.heap.size, 5, none⟩ = some (.bool o.by) := X3.cell rfl
  clear K1 Z1 X1 X2 X3
  go_wp2_with fail
  refine Calls.mono (HMB.out W3) ?_
  rintro e w2 ⟨rfl, g3⟩
  obtain ⟨k, hk⟩ : ∃ k, k = 6 := ⟨_, rfl⟩
  have aE := aggO
  have zE : ∀ w, (Go.sizeOf 51).run Tryz.prog w = .ok k w := by intro w; rw [hk]; exact sizO w
  have HK : Hid _ := hk
  clear hk
  have B2' : Below w.heap.size w w2 := HB13.out.trans (g3.below.mono HB13.out.size)
  have K2 := Bk.below HH.out B2'
  obtain ⟨W5, hst, own5, of5, z5⟩ := own_elem (w := w2.drew) K2.row rfl i (o.amd pr am) h4
  have st := hst Tryz.prog
  have X5 : Blk w2 w1.heap.size (oC (o.amd pr am)).toArray 51 := Blk.below HX3.out g3.below
  have hw1g : g < w1.heap.size := World.block_lt_of_cell? w1 _ d0
  have nO : (oC (o.amd pr am)).length = k := by rw [oC_len, HK.out]
  have k1 : w2.drew.cell? ⟨p, 1, none⟩ = some (.slice (some ⟨g, 0, none⟩) B.os.length cap) := K2.blk.cell rfl
  have k2 : Sem.run Tryz.prog (loadCellsFrom ⟨w1.heap.size, 0, none⟩ 0 k #[]) w2.drew = .ok (oC (o.amd pr am)).toArray w2.drew := run_ldO _ nO (fun q u hu => by rw [Nat.zero_add]; exact X5.cell (by simpa using hu))
  have P5 : Blk W5 p #[.int .i64 B.nx, .slice (some ⟨g, 0, none⟩) B.os.length cap] 103 := Blk.off (w := w2.drew) K2.blk of5 (fun e => hgp e.symm)
  have k3 : W5.cell? ⟨p, 1, none⟩ = some (.slice (some ⟨g, 0, none⟩) B.os.length cap) := P5.cell rfl
  have k4 : Sem.run Tryz.prog (loadCellsFrom ⟨w1.heap.size, 0, none⟩ 0 k #[]) W5 = .ok (oC (o.amd pr am)).toArray W5 := run_ldO _ nO (fun q u hu => by rw [Nat.zero_add]; exact (Blk.off (w := w2.drew) X5 of5 (by omega)).cell (by simpa using hu))
  have HF : Hid (Bst w W5 base p (.slice (some ⟨g, 0, none⟩) B.os.length cap) (.slice (some ⟨g, 0, none⟩) B.os.length cap) ⟨B.nx, B.os.set i (o.amd pr am)⟩) := by
    refine ⟨⟨P5, ?_, HH.out.le, HH.out.ne, HI.out⟩, ?_, fun q hq => Or.inl hq⟩
    · show W5.ownsRow _ _ _ _ (B.os.set i (o.amd pr am)).length _
      rw [List.length_set]
      exact own5
    · exact (Ofb.of_below B2').trans (fun q hq => Or.inl hq) ⟨of5.os, of5.tape, of5.output, of5.size, fun q hq h1 h2 => of5.block q hq (fun e => h2 (by rw [e]; rfl))⟩
  rw [← HK.out] at st
  obtain ⟨cO, hcO⟩ : ∃ cO, oC (o.amd pr am) = cO := ⟨_, rfl⟩
  rw [hcO] at k2 k4 nO st
  clear hst own5 of5 z5 X5 P5 K2 hcO x0 x1 x2 x3 x4 x5 d0 d1 d2 d3 d4 d5
  go_wp2_with fail
  refine wp_region_held_drew (S := fun wx => wx.cell? ⟨p, 1, none⟩ = some (.slice (some ⟨g, 0, none⟩) B.os.length cap) ∧ Sem.run Tryz.prog (loadCellsFrom ⟨w1.heap.size, 0, none⟩ 0 k #[]) wx = .ok cO.toArray wx) (by kernel_rfl) ⟨k1, k2⟩ (fun hS => ?_)
  refine tkH (i := 0) (v := (.pointer (some ⟨p, 0, none⟩))) rfl (fun w hS => by obtain ⟨s0, s1⟩ := hS; go_simp) hS ?_
  refine tkH (i := 1) (v := (.pointer (some ⟨p, 0, none⟩))) rfl (fun w hS => by obtain ⟨s0, s1⟩ := hS; go_simp) hS ?_
  refine tkH (i := 2) (v := (.pointer (some ⟨p, 1, none⟩))) rfl (fun w hS => by obtain ⟨s0, s1⟩ := hS; go_simp) hS ?_
  refine tkH (i := 3) (v := (.slice (some ⟨g, 0, none⟩) B.os.length cap)) rfl (fun w hS => by obtain ⟨s0, s1⟩ := hS; go_simp) hS ?_
  refine tkH (i := 4) (v := (.int .i64 i)) rfl (fun w hS => by obtain ⟨s0, s1⟩ := hS; go_simp) hS ?_
  refine tkH (i := 5) (v := (.agg cO.toArray)) rfl (fun w hS => by obtain ⟨s0, s1⟩ := hS; go_simp) hS ?_
  refine tkH (i := 6) (v := (.pointer (some ⟨g, i * k, none⟩))) rfl (fun w hS => by obtain ⟨s0, s1⟩ := hS; go_simp) hS ?_
  refine wpAnyH_ready (rs := [7]) (by kernel_rfl) (by simp) ?_
  refine AllReadyH.cons rfl (fun K hK => ?_) AllReadyH.nil
  go_simp
  refine hK.out _ _ ⟨k3, k4⟩ (fun hS => ?_)
  clear hK
  refine wpAnyH_done (by kernel_rfl) ?_ _
  go_wp2
  go_ret
  exact ⟨rfl, _, HF.out⟩

set_option maxHeartbeats 8000000 in
set_option maxRecDepth 100000 in
theorem amend_badb (o : Od) (i : Nat) (pr am : Int) (w : World) (h : Bk w base p v B) (hB : base ≤ w.heap.size) (hf : fnd B.os o.id = i) (ho : B.os[i]? = some o) (hm : mayB (o.amd pr am) = false) (hs1 : pr = o.pr) (hs2 : ¬ am ≤ o.am) : Calls Tryz.prog 85 #[.pointer (some ⟨p, 0, none⟩), .int .i64 o.id, .int .i64 o.own, .int .i64 pr, .int .i64 am] w fun e w' => e = .returned (.int .i64 1) ∧ ∃ v', Bst w w' base p v v' B := by
  have hlen := h.inv.len
  have h4 : i < B.os.length := (List.getElem?_eq_some_iff.1 ho).1
  have HOW : Hid _ := owned_some o.id o.own w h i o hf ho ((i : Int), 0) (by rw [if_pos rfl])
  have HH : Hid _ := h
  have HO : Hid _ := ho
  obtain ⟨g, cap, hgc⟩ : ∃ g cap, v = .slice (some ⟨g, 0, none⟩) B.os.length cap := by
    rcases h.row.2 with ⟨_, h0⟩ | ⟨g, cap, cur, hv, _⟩
    · exfalso; omega
    · exact ⟨g, cap, hv⟩
  subst hgc
  have hgp : g ≠ p := fun e => h.ne (by rw [e]; rfl)
  have hi0 : (0 : Int) ≤ (i : Int) := by omega
  have hi1 : (i : Int) < (B.os.length : Int) := by omega
  have hMB := fun w => mayBe_calls (o.amd pr am) w
  have HMB : Hid (∀ w, Calls Tryz.prog 110 #[.agg #[.int .i64 o.id, .int .i64 o.own, .int .i64 pr, .int .i64 am, .int .i64 o.pl, .bool o.by]] w fun e w' => e = .returned (.bool (mayB (o.amd pr am))) ∧ Gr w w') := fun w => hMB w
  clear h hf ho hMB
  rw [hm] at HMB
  have s1 : (pr == o.pr) = true := by simpa using hs1
  have s2 : decide (am ≤ o.am) = false := decide_eq_false hs2
  have HS1 : Hid _ := hs1
  clear hs1
  clear hm
  go_enter Tryz.func85, Tryz.ntmps85
  go_wp2_with fail
  refine Calls.mono HOW.out ?_
  rintro e w1 ⟨rfl, b1⟩
  have K1 := Bk.below HH.out b1
  have c1 : w1.cell? ⟨p, 1, none⟩ = some (.slice (some ⟨g, 0, none⟩) B.os.length cap) := K1.blk.cell rfl
  obtain ⟨d0, d1, d2, d3, d4, d5⟩ : w1.cell? ⟨g, i * 6, none⟩ = some (.int .i64 o.id) ∧ w1.cell? ⟨g, i * 6 + 1, none⟩ = some (.int .i64 o.own) ∧ w1.cell? ⟨g, i * 6 + 2, none⟩ = some (.int .i64 o.pr) ∧ w1.cell? ⟨g, i * 6 + 3, none⟩ = some (.int .i64 o.am) ∧ w1.cell? ⟨g, i * 6 + 4, none⟩ = some (.int .i64 o.pl) ∧ w1.cell? ⟨g, i * 6 + 5, none⟩ = some (.bool o.by) := by
    have hc := K1.row.cells (g := g) rfl
    have key : ∀ j u, (oC o)[j]? = some u → w1.cell? ⟨g, i * 6 + j, none⟩ = some u := fun j u hu => by
      have := hc (i * 6 + j) u (odL_get _ i j o u HO.out hu)
      rwa [Addr.add_lit, Nat.zero_add] at this
    exact ⟨key 0 _ rfl, key 1 _ rfl, key 2 _ rfl, key 3 _ rfl, key 4 _ rfl, key 5 _ rfl⟩
  obtain ⟨W1, hW1, X1, B1, Z1⟩ : ∃ W1, (w1.alloc (.cells #[.int .i64 o.id, .int .i64 o.own, .int .i64 o.pr, .int .i64 o.am, .int .i64 o.pl, .bool o.by] 51)) = W1 ∧ Blk W1 w1.heap.size #[.int .i64 o.id, .int .i64 o.own, .int .i64 o.pr, .int .i64 o.am, .int .i64 o.pl, .bool o.by] 51 ∧ Below w1.heap.size w1 W1 ∧ W1.heap.size = w1.heap.size + 1 :=
    ⟨_, rfl, blk_new _ _ _ _ rfl, by go_grown, by simp⟩
  obtain ⟨W2, hW2, X2, B2⟩ : ∃ W2, W1.setCell ⟨w1.heap.size, 2, none⟩ (.int .i64 pr) = W2 ∧ Blk W2 w1.heap.size #[.int .i64 o.id, .int .i64 o.own, .int .i64 pr, .int .i64 o.am, .int .i64 o.pl, .bool o.by] 51 ∧ Below w1.heap.size w1 W2 := ⟨_, rfl, X1.set 2 _, B1.setCell (by simp) _⟩
  obtain ⟨W3, hW3, X3, B3⟩ : ∃ W3, W2.setCell ⟨w1.heap.size, 3, none⟩ (.int .i64 am) = W3 ∧ Blk W3 w1.heap.size #[.int .i64 o.id, .int .i64 o.own, .int .i64 pr, .int .i64 am, .int .i64 o.pl, .bool o.by] 51 ∧ Below w1.heap.size w1 W3 := ⟨_, rfl, X2.set 3 _, B2.setCell (by simp) _⟩
  have p2 : W1.cell? ⟨w1.heap.size, 2, none⟩ = some (.int .i64 o.pr) := X1.cell rfl
  have p3 : W1.cell? ⟨w1.heap.size, 3, none⟩ = some (.int .i64 o.am) := X1.cell rfl
  have g1 : W1.frozen? ⟨w1.heap.size, 2, none⟩ = false := X1.frozen
  have p4 : W2.cell? ⟨w1.heap.size, 3, none⟩ = some (.int .i64 o.am) := X2.cell rfl
  have g2 : W2.frozen? ⟨w1.heap.size, 3, none⟩ = false := X2.frozen
  have z3 := B3.size
  have hun := Tryz.underlying51
  have h6 : (Tryz.prog.info? 51).map (·.size) = some (#[Value.int .i64 o.id, .int .i64 o.own, .int .i64 pr, .int .i64 am, .int .i64 o.pl, .bool o.by]).size := infoO6 (o.amd pr am)
  have HB13 : Hid (Below w.heap.size w W3) := b1.trans (B3.mono b1.size)
  have HX3 : Hid _ := X3
  have x0 : W3.cell? ⟨w1.heap.size, 0, none⟩ = some (.int .i64 o.id) := X3.cell rfl
  have x1 : W3.cell? ⟨w1.heap.size, 1, none⟩ = some (.int .i64 o.own) := X3.cell rfl
  have x2 : W3.cell? ⟨w1.heap.size, 2, none⟩ = some (.int .i64 pr) := X3.cell rfl
  have x3 : W3.cell? ⟨w1.heap.size, 3, none⟩ = some (.int .i64 am) := X3.cell rfl
  have x4 : W3.cell? ⟨w1.heap.size, 4, none⟩ = some (.int .i64 o.pl) := X3.cell rfl
  have x5 : W3.cell? ⟨w1.heap.size, 5, none⟩ = some (.bool o.by) := X3.cell rfl
  clear K1 Z1 X1 X2 X3
  go_wp2_with fail
  refine Calls.mono (HMB.out W3) ?_
  rintro e w2 ⟨rfl, g3⟩
  go_wp2
  go_ret
  exact ⟨rfl, _, Bst.same HH.out (HB13.out.trans (g3.below.mono HB13.out.size))⟩

set_option maxHeartbeats 8000000 in
set_option maxRecDepth 100000 in
theorem amend_fullb (o : Od) (i : Nat) (pr am : Int) (w : World) (h : Bk w base p v B) (hB : base ≤ w.heap.size) (hf : fnd B.os o.id = i) (ho : B.os[i]? = some o) (hm : mayB (o.amd pr am) = true) (hx : B.nx = 9007199254740992) (hs1 : pr = o.pr) (hs2 : ¬ am ≤ o.am) : Calls Tryz.prog 85 #[.pointer (some ⟨p, 0, none⟩), .int .i64 o.id, .int .i64 o.own, .int .i64 pr, .int .i64 am] w fun e w' => e = .returned (.int .i64 2) ∧ ∃ v', Bst w w' base p v v' B := by
  have hlen := h.inv.len
  have h4 : i < B.os.length := (List.getElem?_eq_some_iff.1 ho).1
  have HOW : Hid _ := owned_some o.id o.own w h i o hf ho ((i : Int), 0) (by rw [if_pos rfl])
  have HH : Hid _ := h
  have HO : Hid _ := ho
  obtain ⟨g, cap, hgc⟩ : ∃ g cap, v = .slice (some ⟨g, 0, none⟩) B.os.length cap := by
    rcases h.row.2 with ⟨_, h0⟩ | ⟨g, cap, cur, hv, _⟩
    · exfalso; omega
    · exact ⟨g, cap, hv⟩
  subst hgc
  have hgp : g ≠ p := fun e => h.ne (by rw [e]; rfl)
  have hi0 : (0 : Int) ≤ (i : Int) := by omega
  have hi1 : (i : Int) < (B.os.length : Int) := by omega
  have hMB := fun w => mayBe_calls (o.amd pr am) w
  have HMB : Hid (∀ w, Calls Tryz.prog 110 #[.agg #[.int .i64 o.id, .int .i64 o.own, .int .i64 pr, .int .i64 am, .int .i64 o.pl, .bool o.by]] w fun e w' => e = .returned (.bool (mayB (o.amd pr am))) ∧ Gr w w') := fun w => hMB w
  clear h hf ho hMB
  rw [hm] at HMB
  have s1 : (pr == o.pr) = true := by simpa using hs1
  have s2 : decide (am ≤ o.am) = false := decide_eq_false hs2
  have HS1 : Hid _ := hs1
  clear hs1
  have HOU : Hid _ := fun (w2 : World) (b2 : Below w.heap.size w w2) => outOf_calls w2 (Bk.below HH.out b2)
  rw [show decide (B.nx = 9007199254740992) = true from decide_eq_true hx] at HOU
  clear hm hx
  go_enter Tryz.func85, Tryz.ntmps85
  go_wp2_with fail
  refine Calls.mono HOW.out ?_
  rintro e w1 ⟨rfl, b1⟩
  have K1 := Bk.below HH.out b1
  have c1 : w1.cell? ⟨p, 1, none⟩ = some (.slice (some ⟨g, 0, none⟩) B.os.length cap) := K1.blk.cell rfl
  obtain ⟨d0, d1, d2, d3, d4, d5⟩ : w1.cell? ⟨g, i * 6, none⟩ = some (.int .i64 o.id) ∧ w1.cell? ⟨g, i * 6 + 1, none⟩ = some (.int .i64 o.own) ∧ w1.cell? ⟨g, i * 6 + 2, none⟩ = some (.int .i64 o.pr) ∧ w1.cell? ⟨g, i * 6 + 3, none⟩ = some (.int .i64 o.am) ∧ w1.cell? ⟨g, i * 6 + 4, none⟩ = some (.int .i64 o.pl) ∧ w1.cell? ⟨g, i * 6 + 5, none⟩ = some (.bool o.by) := by
    have hc := K1.row.cells (g := g) rfl
    have key : ∀ j u, (oC o)[j]? = some u → w1.cell? ⟨g, i * 6 + j, none⟩ = some u := fun j u hu => by
      have := hc (i * 6 + j) u (odL_get _ i j o u HO.out hu)
      rwa [Addr.add_lit, Nat.zero_add] at this
    exact ⟨key 0 _ rfl, key 1 _ rfl, key 2 _ rfl, key 3 _ rfl, key 4 _ rfl, key 5 _ rfl⟩
  obtain ⟨W1, hW1, X1, B1, Z1⟩ : ∃ W1, (w1.alloc (.cells #[.int .i64 o.id, .int .i64 o.own, .int .i64 o.pr, .int .i64 o.am, .int .i64 o.pl, .bool o.by] 51)) = W1 ∧ Blk W1 w1.heap.size #[.int .i64 o.id, .int .i64 o.own, .int .i64 o.pr, .int .i64 o.am, .int .i64 o.pl, .bool o.by] 51 ∧ Below w1.heap.size w1 W1 ∧ W1.heap.size = w1.heap.size + 1 :=
    ⟨_, rfl, blk_new _ _ _ _ rfl, by go_grown, by simp⟩
  obtain ⟨W2, hW2, X2, B2⟩ : ∃ W2, W1.setCell ⟨w1.heap.size, 2, none⟩ (.int .i64 pr) = W2 ∧ Blk W2 w1.heap.size #[.int .i64 o.id, .int .i64 o.own, .int .i64 pr, .int .i64 o.am, .int .i64 o.pl, .bool o.by] 51 ∧ Below w1.heap.size w1 W2 := ⟨_, rfl, X1.set 2 _, B1.setCell (by simp) _⟩
  obtain ⟨W3, hW3, X3, B3⟩ : ∃ W3, W2.setCell ⟨w1.heap.size, 3, none⟩ (.int .i64 am) = W3 ∧ Blk W3 w1.heap.size #[.int .i64 o.id, .int .i64 o.own, .int .i64 pr, .int .i64 am, .int .i64 o.pl, .bool o.by] 51 ∧ Below w1.heap.size w1 W3 := ⟨_, rfl, X2.set 3 _, B2.setCell (by simp) _⟩
  have p2 : W1.cell? ⟨w1.heap.size, 2, none⟩ = some (.int .i64 o.pr) := X1.cell rfl
  have p3 : W1.cell? ⟨w1.heap.size, 3, none⟩ = some (.int .i64 o.am) := X1.cell rfl
  have g1 : W1.frozen? ⟨w1.heap.size, 2, none⟩ = false := X1.frozen
  have p4 : W2.cell? ⟨w1.heap.size, 3, none⟩ = some (.int .i64 o.am) := X2.cell rfl
  have g2 : W2.frozen? ⟨w1.heap.size, 3, none⟩ = false := X2.frozen
  have z3 := B3.size
  have hun := Tryz.underlying51
  have h6 : (Tryz.prog.info? 51).map (·.size) = some (#[Value.int .i64 o.id, .int .i64 o.own, .int .i64 pr, .int .i64 am, .int .i64 o.pl, .bool o.by]).size := infoO6 (o.amd pr am)
  have HB13 : Hid (Below w.heap.size w W3) := b1.trans (B3.mono b1.size)
  have HX3 : Hid _ := X3
  have x0 : W3.cell? ⟨w1.heap.size, 0, none⟩ = some (.int .i64 o.id) := X3.cell rfl
  have x1 : W3.cell? ⟨w1.heap.size, 1, none⟩ = some (.int .i64 o.own) := X3.cell rfl
  have x2 : W3.cell? ⟨w1.heap.size, 2, none⟩ = some (.int .i64 pr) := X3.cell rfl
  have x3 : W3.cell? ⟨w1.heap.size, 3, none⟩ = some (.int .i64 am) := X3.cell rfl
  have x4 : W3.cell? ⟨w1.heap.size, 4, none⟩ = some (.int .i64 o.pl) := X3.cell rfl
  have x5 : W3.cell? ⟨w1.heap.size, 5, none⟩ = some (.bool o.by) := X3.cell rfl
  clear K1 Z1 X1 X2 X3
  go_wp2_with fail
  refine Calls.mono (HMB.out W3) ?_
  rintro e w2 ⟨rfl, g3⟩
  have B2' : Below w.heap.size w w2 := HB13.out.trans (g3.below.mono HB13.out.size)
  go_wp2_with fail
  refine Calls.mono (HOU.out w2 B2') ?_
  rintro e w4 ⟨rfl, rfl⟩
  go_wp2
  go_ret
  exact ⟨rfl, _, Bst.same HH.out B2'⟩

set_option maxHeartbeats 8000000 in
set_option maxRecDepth 100000 in
theorem amend_moveb (o : Od) (i : Nat) (pr am : Int) (w : World) (h : Bk w base p v B) (hB : base ≤ w.heap.size) (hf : fnd B.os o.id = i) (ho : B.os[i]? = some o) (hm : mayB (o.amd pr am) = true) (hx : ¬ B.nx = 9007199254740992) (hs1 : pr = o.pr) (hs2 : ¬ am ≤ o.am) : Calls Tryz.prog 85 #[.pointer (some ⟨p, 0, none⟩), .int .i64 o.id, .int .i64 o.own, .int .i64 pr, .int .i64 am] w fun e w' => e = .returned (.int .i64 0) ∧ ∃ v', Bst w w' base p v v' ((B.rem i).stand (o.amd pr am)) := by
  have hlen := h.inv.len
  have h4 : i < B.os.length := (List.getElem?_eq_some_iff.1 ho).1
  have HOW : Hid _ := owned_some o.id o.own w h i o hf ho ((i : Int), 0) (by rw [if_pos rfl])
  have HH : Hid _ := h
  have HO : Hid _ := ho
  obtain ⟨g, cap, hgc⟩ : ∃ g cap, v = .slice (some ⟨g, 0, none⟩) B.os.length cap := by
    rcases h.row.2 with ⟨_, h0⟩ | ⟨g, cap, cur, hv, _⟩
    · exfalso; omega
    · exact ⟨g, cap, hv⟩
  subst hgc
  have hgp : g ≠ p := fun e => h.ne (by rw [e]; rfl)
  have hi0 : (0 : Int) ≤ (i : Int) := by omega
  have hi1 : (i : Int) < (B.os.length : Int) := by omega
  have hMB := fun w => mayBe_calls (o.amd pr am) w
  have HMB : Hid (∀ w, Calls Tryz.prog 110 #[.agg #[.int .i64 o.id, .int .i64 o.own, .int .i64 pr, .int .i64 am, .int .i64 o.pl, .bool o.by]] w fun e w' => e = .returned (.bool (mayB (o.amd pr am))) ∧ Gr w w') := fun w => hMB w
  clear h hf ho hMB
  rw [hm] at HMB
  have s1 : (pr == o.pr) = true := by simpa using hs1
  have s2 : decide (am ≤ o.am) = false := decide_eq_false hs2
  have HS1 : Hid _ := hs1
  clear hs1
  have HOU : Hid _ := fun (w2 : World) (b2 : Below w.heap.size w w2) => outOf_calls w2 (Bk.below HH.out b2)
  rw [show decide (B.nx = 9007199254740992) = false from decide_eq_false hx] at HOU
  have HI : Hid _ := HH.out.inv.move HO.out (q := o.amd pr am) rfl hm hx
  have HRM : Hid _ := fun (w2 : World) (b2 : Below w.heap.size w w2) => remove_calls i w2 (Bk.below HH.out b2) h4
  clear hm hx
  go_enter Tryz.func85, Tryz.ntmps85
  go_wp2_with fail
  refine Calls.mono HOW.out ?_
  rintro e w1 ⟨rfl, b1⟩
  have K1 := Bk.below HH.out b1
  have c1 : w1.cell? ⟨p, 1, none⟩ = some (.slice (some ⟨g, 0, none⟩) B.os.length cap) := K1.blk.cell rfl
  obtain ⟨d0, d1, d2, d3, d4, d5⟩ : w1.cell? ⟨g, i * 6, none⟩ = some (.int .i64 o.id) ∧ w1.cell? ⟨g, i * 6 + 1, none⟩ = some (.int .i64 o.own) ∧ w1.cell? ⟨g, i * 6 + 2, none⟩ = some (.int .i64 o.pr) ∧ w1.cell? ⟨g, i * 6 + 3, none⟩ = some (.int .i64 o.am) ∧ w1.cell? ⟨g, i * 6 + 4, none⟩ = some (.int .i64 o.pl) ∧ w1.cell? ⟨g, i * 6 + 5, none⟩ = some (.bool o.by) := by
    have hc := K1.row.cells (g := g) rfl
    have key : ∀ j u, (oC o)[j]? = some u → w1.cell? ⟨g, i * 6 + j, none⟩ = some u := fun j u hu => by
      have := hc (i * 6 + j) u (odL_get _ i j o u HO.out hu)
      rwa [Addr.add_lit, Nat.zero_add] at this
    exact ⟨key 0 _ rfl, key 1 _ rfl, key 2 _ rfl, key 3 _ rfl, key 4 _ rfl, key 5 _ rfl⟩
  obtain ⟨W1, hW1, X1, B1, Z1⟩ : ∃ W1, (w1.alloc (.cells #[.int .i64 o.id, .int .i64 o.own, .int .i64 o.pr, .int .i64 o.am, .int .i64 o.pl, .bool o.by] 51)) = W1 ∧ Blk W1 w1.heap.size #[.int .i64 o.id, .int .i64 o.own, .int .i64 o.pr, .int .i64 o.am, .int .i64 o.pl, .bool o.by] 51 ∧ Below w1.heap.size w1 W1 ∧ W1.heap.size = w1.heap.size + 1 :=
    ⟨_, rfl, blk_new _ _ _ _ rfl, by go_grown, by simp⟩
  obtain ⟨W2, hW2, X2, B2⟩ : ∃ W2, W1.setCell ⟨w1.heap.size, 2, none⟩ (.int .i64 pr) = W2 ∧ Blk W2 w1.heap.size #[.int .i64 o.id, .int .i64 o.own, .int .i64 pr, .int .i64 o.am, .int .i64 o.pl, .bool o.by] 51 ∧ Below w1.heap.size w1 W2 := ⟨_, rfl, X1.set 2 _, B1.setCell (by simp) _⟩
  obtain ⟨W3, hW3, X3, B3⟩ : ∃ W3, W2.setCell ⟨w1.heap.size, 3, none⟩ (.int .i64 am) = W3 ∧ Blk W3 w1.heap.size #[.int .i64 o.id, .int .i64 o.own, .int .i64 pr, .int .i64 am, .int .i64 o.pl, .bool o.by] 51 ∧ Below w1.heap.size w1 W3 := ⟨_, rfl, X2.set 3 _, B2.setCell (by simp) _⟩
  have p2 : W1.cell? ⟨w1.heap.size, 2, none⟩ = some (.int .i64 o.pr) := X1.cell rfl
  have p3 : W1.cell? ⟨w1.heap.size, 3, none⟩ = some (.int .i64 o.am) := X1.cell rfl
  have g1 : W1.frozen? ⟨w1.heap.size, 2, none⟩ = false := X1.frozen
  have p4 : W2.cell? ⟨w1.heap.size, 3, none⟩ = some (.int .i64 o.am) := X2.cell rfl
  have g2 : W2.frozen? ⟨w1.heap.size, 3, none⟩ = false := X2.frozen
  have z3 := B3.size
  have hun := Tryz.underlying51
  have h6 : (Tryz.prog.info? 51).map (·.size) = some (#[Value.int .i64 o.id, .int .i64 o.own, .int .i64 pr, .int .i64 am, .int .i64 o.pl, .bool o.by]).size := infoO6 (o.amd pr am)
  have HB13 : Hid (Below w.heap.size w W3) := b1.trans (B3.mono b1.size)
  have HX3 : Hid _ := X3
  have x0 : W3.cell? ⟨w1.heap.size, 0, none⟩ = some (.int .i64 o.id) := X3.cell rfl
  have x1 : W3.cell? ⟨w1.heap.size, 1, none⟩ = some (.int .i64 o.own) := X3.cell rfl
  have x2 : W3.cell? ⟨w1.heap.size, 2, none⟩ = some (.int .i64 pr) := X3.cell rfl
  have x3 : W3.cell? ⟨w1.heap.size, 3, none⟩ = some (.int .i64 am) := X3.cell rfl
  have x4 : W3.cell? ⟨w1.heap.size, 4, none⟩ = some (.int .i64 o.pl) := X3.cell rfl
  have x5 : W3.cell? ⟨w1.heap.size, 5, none⟩ = some (.bool o.by) := X3.cell rfl
  clear K1 Z1 X1 X2 X3
  go_wp2_with fail
  refine Calls.mono (HMB.out W3) ?_
  rintro e w2 ⟨rfl, g3⟩
  have B2' : Below w.heap.size w w2 := HB13.out.trans (g3.below.mono HB13.out.size)
  go_wp2_with fail
  refine Calls.mono (HOU.out w2 B2') ?_
  rintro e w4 ⟨rfl, rfl⟩
  have X4 : Blk w4 w1.heap.size #[.int .i64 o.id, .int .i64 o.own, .int .i64 pr, .int .i64 am, .int .i64 o.pl, .bool o.by] 51 := Blk.below HX3.out g3.below
  have hw1p : p < w1.heap.size := World.block_lt_of_cell? w1 _ c1
  have hw1g : g < w1.heap.size := World.block_lt_of_cell? w1 _ d0
  go_wp2_with fail
  refine Calls.mono (HRM.out w4 B2') ?_
  rintro e w5 ⟨rfl, v5, S5⟩
  have X5 := Blk.ofb X4 S5.of (by omega) (by intro e; simp only [Value.ownBlock, Option.some.injEq] at e; omega)
  have HST : Hid _ := stand_calls (o.amd pr am) w5 S5.bk (by have := S5.of.size; have := B2'.size; omega) HI.out
  clear x0 x1 x2 x3 x4 x5
  have x0 : w5.cell? ⟨w1.heap.size, 0, none⟩ = some (.int .i64 o.id) := X5.cell rfl
  have x1 : w5.cell? ⟨w1.heap.size, 1, none⟩ = some (.int .i64 o.own) := X5.cell rfl
  have x2 : w5.cell? ⟨w1.heap.size, 2, none⟩ = some (.int .i64 pr) := X5.cell rfl
  have x3 : w5.cell? ⟨w1.heap.size, 3, none⟩ = some (.int .i64 am) := X5.cell rfl
  have x4 : w5.cell? ⟨w1.heap.size, 4, none⟩ = some (.int .i64 o.pl) := X5.cell rfl
  have x5 : w5.cell? ⟨w1.heap.size, 5, none⟩ = some (.bool o.by) := X5.cell rfl
  have HS5 : Hid _ := S5
  clear S5 X5 X4
  go_wp2_with fail
  refine Calls.mono HST.out ?_
  rintro e w6 ⟨rfl, v6, S6⟩
  go_wp2
  go_ret
  exact ⟨rfl, v6, Bst.first B2' (Bst.trans HS5.out S6)⟩

set_option maxHeartbeats 8000000 in
set_option maxRecDepth 100000 in
theorem amend_badc (o : Od) (i : Nat) (pr am : Int) (w : World) (h : Bk w base p v B) (hB : base ≤ w.heap.size) (hf : fnd B.os o.id = i) (ho : B.os[i]? = some o) (hm : mayB (o.amd pr am) = false) (hs1 : ¬ pr = o.pr) : Calls Tryz.prog 85 #[.pointer (some ⟨p, 0, none⟩), .int .i64 o.id, .int .i64 o.own, .int .i64 pr, .int .i64 am] w fun e w' => e = .returned (.int .i64 1) ∧ ∃ v', Bst w w' base p v v' B := by
  have hlen := h.inv.len
  have h4 : i < B.os.length := (List.getElem?_eq_some_iff.1 ho).1
  have HOW : Hid _ := owned_some o.id o.own w h i o hf ho ((i : Int), 0) (by rw [if_pos rfl])
  have HH : Hid _ := h
  have HO : Hid _ := ho
  obtain ⟨g, cap, hgc⟩ : ∃ g cap, v = .slice (some ⟨g, 0, none⟩) B.os.length cap := by
    rcases h.row.2 with ⟨_, h0⟩ | ⟨g, cap, cur, hv, _⟩
    · exfalso; omega
    · exact ⟨g, cap, hv⟩
  subst hgc
  have hgp : g ≠ p := fun e => h.ne (by rw [e]; rfl)
  have hi0 : (0 : Int) ≤ (i : Int) := by omega
  have hi1 : (i : Int) < (B.os.length : Int) := by omega
  have hMB := fun w => mayBe_calls (o.amd pr am) w
  have HMB : Hid (∀ w, Calls Tryz.prog 110 #[.agg #[.int .i64 o.id, .int .i64 o.own, .int .i64 pr, .int .i64 am, .int .i64 o.pl, .bool o.by]] w fun e w' => e = .returned (.bool (mayB (o.amd pr am))) ∧ Gr w w') := fun w => hMB w
  clear h hf ho hMB
  rw [hm] at HMB
  have s1 : (pr == o.pr) = false := by simpa using hs1
  clear hm
  go_enter Tryz.func85, Tryz.ntmps85
  go_wp2_with fail
  refine Calls.mono HOW.out ?_
  rintro e w1 ⟨rfl, b1⟩
  have K1 := Bk.below HH.out b1
  have c1 : w1.cell? ⟨p, 1, none⟩ = some (.slice (some ⟨g, 0, none⟩) B.os.length cap) := K1.blk.cell rfl
  obtain ⟨d0, d1, d2, d3, d4, d5⟩ : w1.cell? ⟨g, i * 6, none⟩ = some (.int .i64 o.id) ∧ w1.cell? ⟨g, i * 6 + 1, none⟩ = some (.int .i64 o.own) ∧ w1.cell? ⟨g, i * 6 + 2, none⟩ = some (.int .i64 o.pr) ∧ w1.cell? ⟨g, i * 6 + 3, none⟩ = some (.int .i64 o.am) ∧ w1.cell? ⟨g, i * 6 + 4, none⟩ = some (.int .i64 o.pl) ∧ w1.cell? ⟨g, i * 6 + 5, none⟩ = some (.bool o.by) := by
    have hc := K1.row.cells (g := g) rfl
    have key : ∀ j u, (oC o)[j]? = some u → w1.cell? ⟨g, i * 6 + j, none⟩ = some u := fun j u hu => by
      have := hc (i * 6 + j) u (odL_get _ i j o u HO.out hu)
      rwa [Addr.add_lit, Nat.zero_add] at this
    exact ⟨key 0 _ rfl, key 1 _ rfl, key 2 _ rfl, key 3 _ rfl, key 4 _ rfl, key 5 _ rfl⟩
  obtain ⟨W1, hW1, X1, B1, Z1⟩ : ∃ W1, (w1.alloc (.cells #[.int .i64 o.id, .int .i64 o.own, .int .i64 o.pr, .int .i64 o.am, .int .i64 o.pl, .bool o.by] 51)) = W1 ∧ Blk W1 w1.heap.size #[.int .i64 o.id, .int .i64 o.own, .int .i64 o.pr, .int .i64 o.am, .int .i64 o.pl, .bool o.by] 51 ∧ Below w1.heap.size w1 W1 ∧ W1.heap.size = w1.heap.size + 1 :=
    ⟨_, rfl, blk_new _ _ _ _ rfl, by go_grown, by simp⟩
  obtain ⟨W2, hW2, X2, B2⟩ : ∃ W2, W1.setCell ⟨w1.heap.size, 2, none⟩ (.int .i64 pr) = W2 ∧ Blk W2 w1.heap.size #[.int .i64 o.id, .int .i64 o.own, .int .i64 pr, .int .i64 o.am, .int .i64 o.pl, .bool o.by] 51 ∧ Below w1.heap.size w1 W2 := ⟨_, rfl, X1.set 2 _, B1.setCell (by simp) _⟩
  obtain ⟨W3, hW3, X3, B3⟩ : ∃ W3, W2.setCell ⟨w1.heap.size, 3, none⟩ (.int .i64 am) = W3 ∧ Blk W3 w1.heap.size #[.int .i64 o.id, .int .i64 o.own, .int .i64 pr, .int .i64 am, .int .i64 o.pl, .bool o.by] 51 ∧ Below w1.heap.size w1 W3 := ⟨_, rfl, X2.set 3 _, B2.setCell (by simp) _⟩
  have p2 : W1.cell? ⟨w1.heap.size, 2, none⟩ = some (.int .i64 o.pr) := X1.cell rfl
  have p3 : W1.cell? ⟨w1.heap.size, 3, none⟩ = some (.int .i64 o.am) := X1.cell rfl
  have g1 : W1.frozen? ⟨w1.heap.size, 2, none⟩ = false := X1.frozen
  have p4 : W2.cell? ⟨w1.heap.size, 3, none⟩ = some (.int .i64 o.am) := X2.cell rfl
  have g2 : W2.frozen? ⟨w1.heap.size, 3, none⟩ = false := X2.frozen
  have z3 := B3.size
  have hun := Tryz.underlying51
  have h6 : (Tryz.prog.info? 51).map (·.size) = some (#[Value.int .i64 o.id, .int .i64 o.own, .int .i64 pr, .int .i64 am, .int .i64 o.pl, .bool o.by]).size := infoO6 (o.amd pr am)
  have HB13 : Hid (Below w.heap.size w W3) := b1.trans (B3.mono b1.size)
  have HX3 : Hid _ := X3
  have x0 : W3.cell? ⟨w1.heap.size, 0, none⟩ = some (.int .i64 o.id) := X3.cell rfl
  have x1 : W3.cell? ⟨w1.heap.size, 1, none⟩ = some (.int .i64 o.own) := X3.cell rfl
  have x2 : W3.cell? ⟨w1.heap.size, 2, none⟩ = some (.int .i64 pr) := X3.cell rfl
  have x3 : W3.cell? ⟨w1.heap.size, 3, none⟩ = some (.int .i64 am) := X3.cell rfl
  have x4 : W3.cell? ⟨w1.heap.size, 4, none⟩ = some (.int .i64 o.pl) := X3.cell rfl
  have x5 : W3.cell? ⟨w1.heap.size, 5, none⟩ = some (.bool o.by) := X3.cell rfl
  clear K1 Z1 X1 X2 X3
  go_wp2_with fail
  refine Calls.mono (HMB.out W3) ?_
  rintro e w2 ⟨rfl, g3⟩
  go_wp2
  go_ret
  exact ⟨rfl, _, Bst.same HH.out (HB13.out.trans (g3.below.mono HB13.out.size))⟩

set_option maxHeartbeats 8000000 in
set_option maxRecDepth 100000 in
theorem amend_fullc (o : Od) (i : Nat) (pr am : Int) (w : World) (h : Bk w base p v B) (hB : base ≤ w.heap.size) (hf : fnd B.os o.id = i) (ho : B.os[i]? = some o) (hm : mayB (o.amd pr am) = true) (hx : B.nx = 9007199254740992) (hs1 : ¬ pr = o.pr) : Calls Tryz.prog 85 #[.pointer (some ⟨p, 0, none⟩), .int .i64 o.id, .int .i64 o.own, .int .i64 pr, .int .i64 am] w fun e w' => e = .returned (.int .i64 2) ∧ ∃ v', Bst w w' base p v v' B := by
  have hlen := h.inv.len
  have h4 : i < B.os.length := (List.getElem?_eq_some_iff.1 ho).1
  have HOW : Hid _ := owned_some o.id o.own w h i o hf ho ((i : Int), 0) (by rw [if_pos rfl])
  have HH : Hid _ := h
  have HO : Hid _ := ho
  obtain ⟨g, cap, hgc⟩ : ∃ g cap, v = .slice (some ⟨g, 0, none⟩) B.os.length cap := by
    rcases h.row.2 with ⟨_, h0⟩ | ⟨g, cap, cur, hv, _⟩
    · exfalso; omega
    · exact ⟨g, cap, hv⟩
  subst hgc
  have hgp : g ≠ p := fun e => h.ne (by rw [e]; rfl)
  have hi0 : (0 : Int) ≤ (i : Int) := by omega
  have hi1 : (i : Int) < (B.os.length : Int) := by omega
  have hMB := fun w => mayBe_calls (o.amd pr am) w
  have HMB : Hid (∀ w, Calls Tryz.prog 110 #[.agg #[.int .i64 o.id, .int .i64 o.own, .int .i64 pr, .int .i64 am, .int .i64 o.pl, .bool o.by]] w fun e w' => e = .returned (.bool (mayB (o.amd pr am))) ∧ Gr w w') := fun w => hMB w
  clear h hf ho hMB
  rw [hm] at HMB
  have s1 : (pr == o.pr) = false := by simpa using hs1
  have HOU : Hid _ := fun (w2 : World) (b2 : Below w.heap.size w w2) => outOf_calls w2 (Bk.below HH.out b2)
  rw [show decide (B.nx = 9007199254740992) = true from decide_eq_true hx] at HOU
  clear hm hx
  go_enter Tryz.func85, Tryz.ntmps85
  go_wp2_with fail
  refine Calls.mono HOW.out ?_
  rintro e w1 ⟨rfl, b1⟩
  have K1 := Bk.below HH.out b1
  have c1 : w1.cell? ⟨p, 1, none⟩ = some (.slice (some ⟨g, 0, none⟩) B.os.length cap) := K1.blk.cell rfl
  obtain ⟨d0, d1, d2, d3, d4, d5⟩ : w1.cell? ⟨g, i * 6, none⟩ = some (.int .i64 o.id) ∧ w1.cell? ⟨g, i * 6 + 1, none⟩ = some (.int .i64 o.own) ∧ w1.cell? ⟨g, i * 6 + 2, none⟩ = some (.int .i64 o.pr) ∧ w1.cell? ⟨g, i * 6 + 3, none⟩ = some (.int .i64 o.am) ∧ w1.cell? ⟨g, i * 6 + 4, none⟩ = some (.int .i64 o.pl) ∧ w1.cell? ⟨g, i * 6 + 5, none⟩ = some (.bool o.by) := by
    have hc := K1.row.cells (g := g) rfl
    have key : ∀ j u, (oC o)[j]? = some u → w1.cell? ⟨g, i * 6 + j, none⟩ = some u := fun j u hu => by
      have := hc (i * 6 + j) u (odL_get _ i j o u HO.out hu)
      rwa [Addr.add_lit, Nat.zero_add] at this
    exact ⟨key 0 _ rfl, key 1 _ rfl, key 2 _ rfl, key 3 _ rfl, key 4 _ rfl, key 5 _ rfl⟩
  obtain ⟨W1, hW1, X1, B1, Z1⟩ : ∃ W1, (w1.alloc (.cells #[.int .i64 o.id, .int .i64 o.own, .int .i64 o.pr, .int .i64 o.am, .int .i64 o.pl, .bool o.by] 51)) = W1 ∧ Blk W1 w1.heap.size #[.int .i64 o.id, .int .i64 o.own, .int .i64 o.pr, .int .i64 o.am, .int .i64 o.pl, .bool o.by] 51 ∧ Below w1.heap.size w1 W1 ∧ W1.heap.size = w1.heap.size + 1 :=
    ⟨_, rfl, blk_new _ _ _ _ rfl, by go_grown, by simp⟩
  obtain ⟨W2, hW2, X2, B2⟩ : ∃ W2, W1.setCell ⟨w1.heap.size, 2, none⟩ (.int .i64 pr) = W2 ∧ Blk W2 w1.heap.size #[.int .i64 o.id, .int .i64 o.own, .int .i64 pr, .int .i64 o.am, .int .i64 o.pl, .bool o.by] 51 ∧ Below w1.heap.size w1 W2 := ⟨_, rfl, X1.set 2 _, B1.setCell (by simp) _⟩
  obtain ⟨W3, hW3, X3, B3⟩ : ∃ W3, W2.setCell ⟨w1.heap.size, 3, none⟩ (.int .i64 am) = W3 ∧ Blk W3 w1.heap.size #[.int .i64 o.id, .int .i64 o.own, .int .i64 pr, .int .i64 am, .int .i64 o.pl, .bool o.by] 51 ∧ Below w1.heap.size w1 W3 := ⟨_, rfl, X2.set 3 _, B2.setCell (by simp) _⟩
  have p2 : W1.cell? ⟨w1.heap.size, 2, none⟩ = some (.int .i64 o.pr) := X1.cell rfl
  have p3 : W1.cell? ⟨w1.heap.size, 3, none⟩ = some (.int .i64 o.am) := X1.cell rfl
  have g1 : W1.frozen? ⟨w1.heap.size, 2, none⟩ = false := X1.frozen
  have p4 : W2.cell? ⟨w1.heap.size, 3, none⟩ = some (.int .i64 o.am) := X2.cell rfl
  have g2 : W2.frozen? ⟨w1.heap.size, 3, none⟩ = false := X2.frozen
  have z3 := B3.size
  have hun := Tryz.underlying51
  have h6 : (Tryz.prog.info? 51).map (·.size) = some (#[Value.int .i64 o.id, .int .i64 o.own, .int .i64 pr, .int .i64 am, .int .i64 o.pl, .bool o.by]).size := infoO6 (o.amd pr am)
  have HB13 : Hid (Below w.heap.size w W3) := b1.trans (B3.mono b1.size)
  have HX3 : Hid _ := X3
  have x0 : W3.cell? ⟨w1.heap.size, 0, none⟩ = some (.int .i64 o.id) := X3.cell rfl
  have x1 : W3.cell? ⟨w1.heap.size, 1, none⟩ = some (.int .i64 o.own) := X3.cell rfl
  have x2 : W3.cell? ⟨w1.heap.size, 2, none⟩ = some (.int .i64 pr) := X3.cell rfl
  have x3 : W3.cell? ⟨w1.heap.size, 3, none⟩ = some (.int .i64 am) := X3.cell rfl
  have x4 : W3.cell? ⟨w1.heap.size, 4, none⟩ = some (.int .i64 o.pl) := X3.cell rfl
  have x5 : W3.cell? ⟨w1.heap.size, 5, none⟩ = some (.bool o.by) := X3.cell rfl
  clear K1 Z1 X1 X2 X3
  go_wp2_with fail
  refine Calls.mono (HMB.out W3) ?_
  rintro e w2 ⟨rfl, g3⟩
  have B2' : Below w.heap.size w w2 := HB13.out.trans (g3.below.mono HB13.out.size)
  go_wp2_with fail
  refine Calls.mono (HOU.out w2 B2') ?_
  rintro e w4 ⟨rfl, rfl⟩
  go_wp2
  go_ret
  exact ⟨rfl, _, Bst.same HH.out B2'⟩

set_option maxHeartbeats 8000000 in
set_option maxRecDepth 100000 in
theorem amend_movec (o : Od) (i : Nat) (pr am : Int) (w : World) (h : Bk w base p v B) (hB : base ≤ w.heap.size) (hf : fnd B.os o.id = i) (ho : B.os[i]? = some o) (hm : mayB (o.amd pr am) = true) (hx : ¬ B.nx = 9007199254740992) (hs1 : ¬ pr = o.pr) : Calls Tryz.prog 85 #[.pointer (some ⟨p, 0, none⟩), .int .i64 o.id, .int .i64 o.own, .int .i64 pr, .int .i64 am] w fun e w' => e = .returned (.int .i64 0) ∧ ∃ v', Bst w w' base p v v' ((B.rem i).stand (o.amd pr am)) := by
  have hlen := h.inv.len
  have h4 : i < B.os.length := (List.getElem?_eq_some_iff.1 ho).1
  have HOW : Hid _ := owned_some o.id o.own w h i o hf ho ((i : Int), 0) (by rw [if_pos rfl])
  have HH : Hid _ := h
  have HO : Hid _ := ho
  obtain ⟨g, cap, hgc⟩ : ∃ g cap, v = .slice (some ⟨g, 0, none⟩) B.os.length cap := by
    rcases h.row.2 with ⟨_, h0⟩ | ⟨g, cap, cur, hv, _⟩
    · exfalso; omega
    · exact ⟨g, cap, hv⟩
  subst hgc
  have hgp : g ≠ p := fun e => h.ne (by rw [e]; rfl)
  have hi0 : (0 : Int) ≤ (i : Int) := by omega
  have hi1 : (i : Int) < (B.os.length : Int) := by omega
  have hMB := fun w => mayBe_calls (o.amd pr am) w
  have HMB : Hid (∀ w, Calls Tryz.prog 110 #[.agg #[.int .i64 o.id, .int .i64 o.own, .int .i64 pr, .int .i64 am, .int .i64 o.pl, .bool o.by]] w fun e w' => e = .returned (.bool (mayB (o.amd pr am))) ∧ Gr w w') := fun w => hMB w
  clear h hf ho hMB
  rw [hm] at HMB
  have s1 : (pr == o.pr) = false := by simpa using hs1
  have HOU : Hid _ := fun (w2 : World) (b2 : Below w.heap.size w w2) => outOf_calls w2 (Bk.below HH.out b2)
  rw [show decide (B.nx = 9007199254740992) = false from decide_eq_false hx] at HOU
  have HI : Hid _ := HH.out.inv.move HO.out (q := o.amd pr am) rfl hm hx
  have HRM : Hid _ := fun (w2 : World) (b2 : Below w.heap.size w w2) => remove_calls i w2 (Bk.below HH.out b2) h4
  clear hm hx
  go_enter Tryz.func85, Tryz.ntmps85
  go_wp2_with fail
  refine Calls.mono HOW.out ?_
  rintro e w1 ⟨rfl, b1⟩
  have K1 := Bk.below HH.out b1
  have c1 : w1.cell? ⟨p, 1, none⟩ = some (.slice (some ⟨g, 0, none⟩) B.os.length cap) := K1.blk.cell rfl
  obtain ⟨d0, d1, d2, d3, d4, d5⟩ : w1.cell? ⟨g, i * 6, none⟩ = some (.int .i64 o.id) ∧ w1.cell? ⟨g, i * 6 + 1, none⟩ = some (.int .i64 o.own) ∧ w1.cell? ⟨g, i * 6 + 2, none⟩ = some (.int .i64 o.pr) ∧ w1.cell? ⟨g, i * 6 + 3, none⟩ = some (.int .i64 o.am) ∧ w1.cell? ⟨g, i * 6 + 4, none⟩ = some (.int .i64 o.pl) ∧ w1.cell? ⟨g, i * 6 + 5, none⟩ = some (.bool o.by) := by
    have hc := K1.row.cells (g := g) rfl
    have key : ∀ j u, (oC o)[j]? = some u → w1.cell? ⟨g, i * 6 + j, none⟩ = some u := fun j u hu => by
      have := hc (i * 6 + j) u (odL_get _ i j o u HO.out hu)
      rwa [Addr.add_lit, Nat.zero_add] at this
    exact ⟨key 0 _ rfl, key 1 _ rfl, key 2 _ rfl, key 3 _ rfl, key 4 _ rfl, key 5 _ rfl⟩
  obtain ⟨W1, hW1, X1, B1, Z1⟩ : ∃ W1, (w1.alloc (.cells #[.int .i64 o.id, .int .i64 o.own, .int .i64 o.pr, .int .i64 o.am, .int .i64 o.pl, .bool o.by] 51)) = W1 ∧ Blk W1 w1.heap.size #[.int .i64 o.id, .int .i64 o.own, .int .i64 o.pr, .int .i64 o.am, .int .i64 o.pl, .bool o.by] 51 ∧ Below w1.heap.size w1 W1 ∧ W1.heap.size = w1.heap.size + 1 :=
    ⟨_, rfl, blk_new _ _ _ _ rfl, by go_grown, by simp⟩
  obtain ⟨W2, hW2, X2, B2⟩ : ∃ W2, W1.setCell ⟨w1.heap.size, 2, none⟩ (.int .i64 pr) = W2 ∧ Blk W2 w1.heap.size #[.int .i64 o.id, .int .i64 o.own, .int .i64 pr, .int .i64 o.am, .int .i64 o.pl, .bool o.by] 51 ∧ Below w1.heap.size w1 W2 := ⟨_, rfl, X1.set 2 _, B1.setCell (by simp) _⟩
  obtain ⟨W3, hW3, X3, B3⟩ : ∃ W3, W2.setCell ⟨w1.heap.size, 3, none⟩ (.int .i64 am) = W3 ∧ Blk W3 w1.heap.size #[.int .i64 o.id, .int .i64 o.own, .int .i64 pr, .int .i64 am, .int .i64 o.pl, .bool o.by] 51 ∧ Below w1.heap.size w1 W3 := ⟨_, rfl, X2.set 3 _, B2.setCell (by simp) _⟩
  have p2 : W1.cell? ⟨w1.heap.size, 2, none⟩ = some (.int .i64 o.pr) := X1.cell rfl
  have p3 : W1.cell? ⟨w1.heap.size, 3, none⟩ = some (.int .i64 o.am) := X1.cell rfl
  have g1 : W1.frozen? ⟨w1.heap.size, 2, none⟩ = false := X1.frozen
  have p4 : W2.cell? ⟨w1.heap.size, 3, none⟩ = some (.int .i64 o.am) := X2.cell rfl
  have g2 : W2.frozen? ⟨w1.heap.size, 3, none⟩ = false := X2.frozen
  have z3 := B3.size
  have hun := Tryz.underlying51
  have h6 : (Tryz.prog.info? 51).map (·.size) = some (#[Value.int .i64 o.id, .int .i64 o.own, .int .i64 pr, .int .i64 am, .int .i64 o.pl, .bool o.by]).size := infoO6 (o.amd pr am)
  have HB13 : Hid (Below w.heap.size w W3) := b1.trans (B3.mono b1.size)
  have HX3 : Hid _ := X3
  have x0 : W3.cell? ⟨w1.heap.size, 0, none⟩ = some (.int .i64 o.id) := X3.cell rfl
  have x1 : W3.cell? ⟨w1.heap.size, 1, none⟩ = some (.int .i64 o.own) := X3.cell rfl
  have x2 : W3.cell? ⟨w1.heap.size, 2, none⟩ = some (.int .i64 pr) := X3.cell rfl
  have x3 : W3.cell? ⟨w1.heap.size, 3, none⟩ = some (.int .i64 am) := X3.cell rfl
  have x4 : W3.cell? ⟨w1.heap.size, 4, none⟩ = some (.int .i64 o.pl) := X3.cell rfl
  have x5 : W3.cell? ⟨w1.heap.size, 5, none⟩ = some (.bool o.by) := X3.cell rfl
  clear K1 Z1 X1 X2 X3
  go_wp2_with fail
  refine Calls.mono (HMB.out W3) ?_
  rintro e w2 ⟨rfl, g3⟩
  have B2' : Below w.heap.size w w2 := HB13.out.trans (g3.below.mono HB13.out.size)
  go_wp2_with fail
  refine Calls.mono (HOU.out w2 B2') ?_
  rintro e w4 ⟨rfl, rfl⟩
  have X4 : Blk w4 w1.heap.size #[.int .i64 o.id, .int .i64 o.own, .int .i64 pr, .int .i64 am, .int .i64 o.pl, .bool o.by] 51 := Blk.below HX3.out g3.below
  have hw1p : p < w1.heap.size := World.block_lt_of_cell? w1 _ c1
  have hw1g : g < w1.heap.size := World.block_lt_of_cell? w1 _ d0
  go_wp2_with fail
  refine Calls.mono (HRM.out w4 B2') ?_
  rintro e w5 ⟨rfl, v5, S5⟩
  have X5 := Blk.ofb X4 S5.of (by omega) (by intro e; simp only [Value.ownBlock, Option.some.injEq] at e; omega)
  have HST : Hid _ := stand_calls (o.amd pr am) w5 S5.bk (by have := S5.of.size; have := B2'.size; omega) HI.out
  clear x0 x1 x2 x3 x4 x5
  have x0 : w5.cell? ⟨w1.heap.size, 0, none⟩ = some (.int .i64 o.id) := X5.cell rfl
  have x1 : w5.cell? ⟨w1.heap.size, 1, none⟩ = some (.int .i64 o.own) := X5.cell rfl
  have x2 : w5.cell? ⟨w1.heap.size, 2, none⟩ = some (.int .i64 pr) := X5.cell rfl
  have x3 : w5.cell? ⟨w1.heap.size, 3, none⟩ = some (.int .i64 am) := X5.cell rfl
  have x4 : w5.cell? ⟨w1.heap.size, 4, none⟩ = some (.int .i64 o.pl) := X5.cell rfl
  have x5 : w5.cell? ⟨w1.heap.size, 5, none⟩ = some (.bool o.by) := X5.cell rfl
  have HS5 : Hid _ := S5
  clear S5 X5 X4
  go_wp2_with fail
  refine Calls.mono HST.out ?_
  rintro e w6 ⟨rfl, v6, S6⟩
  go_wp2
  go_ret
  exact ⟨rfl, v6, Bst.first B2' (Bst.trans HS5.out S6)⟩
end Go.Proofs.YtpekfpfhonechaaGreat.Cal
