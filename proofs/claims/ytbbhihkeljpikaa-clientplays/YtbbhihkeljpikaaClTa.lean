/- Requests that are refused; time that goes on; a model of a client in memory. -/
import Derived.Test.YtbbhihkeljpikaaClJ
import Derived.Test.YtbbhihkeljpikaaClXK
namespace Go.Proofs.Ytbbhihkeljpikaa
open Go.RowKit
set_option linter.unusedSimpArgs false
set_option linter.unusedVariables false

variable {p b x y : Nat} {T : List ByteArray} {S : List (Int × ByteArray)} {q tm tc : Nat} {av : Value} {C : Cs} {w0 : World}
theorem request_long (op : ByteArray) (w : World) (h : St w0 w p b x y T S q tm tc av C) (ho : 256 < op.size) (hz : op.size ≤ 140737488351232) :
    Calls Try.prog 25 #[.pointer (some ⟨q, 0, none⟩), .string op] w fun e w' => e = .returned (.tuple #[.slice none 0 0, .int .i64 1]) ∧ w' = w := by
  have HM : Hid _ := madeC_calls w h
  have hd : decide (256 < (op.size : Int)) = true := decide_eq_true (by omega)
  go_enter Try.func25, Try.ntmps25
  go_wp2_with fail
  refine Calls.mono HM.out ?_
  rintro e w2 ⟨rfl, rfl⟩
  go_wp2
  go_ret2
  exact ⟨rfl, rfl⟩
theorem request_busy (op : ByteArray) (w : World) (h : St w0 w p b x y T S q tm tc av C) (ho : op.size ≤ 256) (hw : C.waits = true) :
    Calls Try.prog 25 #[.pointer (some ⟨q, 0, none⟩), .string op] w fun e w' => e = .returned (.tuple #[.slice none 0 0, .int .i64 63]) ∧ w' = w := by
  have HM : Hid _ := madeC_calls w h
  have HW : Hid _ := waits_calls w h
  rw [hw] at HW
  have hd : decide (256 < (op.size : Int)) = false := decide_eq_false (by omega)
  go_enter Try.func25, Try.ntmps25
  go_wp2_with fail
  refine Calls.mono HM.out ?_
  rintro e w2 ⟨rfl, rfl⟩
  go_wp2_with fail
  refine Calls.mono HW.out ?_
  rintro e w2 ⟨rfl, rfl⟩
  go_wp2
  go_ret2
  exact ⟨rfl, rfl⟩
theorem tick_idle (w : World) (h : St w0 w p b x y T S q tm tc av C) (hw : C.waits = false) : Calls Try.prog 16 #[.pointer (some ⟨q, 0, none⟩)] w fun e w' => e = .returned (.slice none 0 0) ∧ w' = w := by
  have HW : Hid _ := waits_calls w h
  rw [hw] at HW
  go_enter Try.func16, Try.ntmps16
  go_wp2_with fail
  refine Calls.mono HW.out ?_
  rintro e w2 ⟨rfl, rfl⟩
  go_wp2
  go_ret
  exact ⟨rfl, rfl⟩
def Cs.tick (C : Cs) : Cs := { C with ticks := ((C.ticks + 1) % 4) }
set_option maxHeartbeats 1000000 in
set_option maxRecDepth 100000 in
theorem tick_still (w : World) (h : St w0 w p b x y T S q tm tc av C) (hw : C.waits = true) (h0 : 0 ≤ C.ticks ∧ C.ticks ≤ 1000) (ht : ¬ ((C.ticks + 1) % 4) = 0) : Calls Try.prog 16 #[.pointer (some ⟨q, 0, none⟩)] w fun e w' => e = .returned (.slice none 0 0) ∧ St w0 w' p b x y T S q tm tc av C.tick ∧ Kpt av w w' := by
  have HW : Hid _ := waits_calls w h
  rw [hw] at HW
  have c8 : w.cell? ⟨q, 8, none⟩ = some (.int .i64 C.ticks) := h.blk.cell rfl
  have f8 : w.frozen? ⟨q, 8, none⟩ = false := h.blk.frozen
  obtain ⟨Wa, hWa, Ha, ka⟩ := put_named (C' := C.tick) h 8 (.int .i64 (((C.ticks + 1) % 4))) rfl rfl rfl
  have d8 : Wa.cell? ⟨q, 8, none⟩ = some (.int .i64 (((C.ticks + 1) % 4))) := Ha.blk.cell rfl
  have e1 : IntKind.i64.wrap (C.ticks + 1) = C.ticks + 1 := wrapC (by omega) (by omega)
  have e2 : IntKind.i64.wrap (((C.ticks + 1) % 4)) = ((C.ticks + 1) % 4) := wrapC (by omega) (by omega)
  have HF : Hid (St w0 Wa p b x y T S q tm tc av C.tick ∧ Kpt av w Wa) := ⟨Ha, ka _ _ (Kpt.refl _)⟩
  have n1 : (((C.ticks + 1) % 4) != 0) = true := by simpa using ht
  have n2 : decide ((C.ticks + 1) % 4 = 0) = false := decide_eq_false ht
  have n3 : (((C.ticks + 1) % 4) == 0) = false := n2
  clear ka Ha h ht
  go_enter Try.func16, Try.ntmps16
  go_wp2_with fail
  refine Calls.mono HW.out ?_
  rintro e w ⟨rfl, rfl⟩
  go_wp2
  go_ret
  exact ⟨rfl, HF.out⟩
set_option maxHeartbeats 1000000 in
set_option maxRecDepth 100000 in
theorem tick_sends (w : World) (h : St w0 w p b x y T S q tm tc av C) (hw : C.waits = true) (h0 : 0 ≤ C.ticks ∧ C.ticks ≤ 1000) (ht : ((C.ticks + 1) % 4) = 0) (f : Nat) (hf : C.cf = f) (hf1 : f ≤ 4) : Calls Try.prog 16 #[.pointer (some ⟨q, 0, none⟩)] w fun e w' => ∃ v, e = .returned v ∧ SentTo w' v (3 * f + 1) C.asked ∧ St w0 w' p b x y T S q tm tc av C.tick ∧ Kpt av w w' := by
  have HW : Hid _ := waits_calls w h
  rw [hw] at HW
  have c8 : w.cell? ⟨q, 8, none⟩ = some (.int .i64 C.ticks) := h.blk.cell rfl
  have f8 : w.frozen? ⟨q, 8, none⟩ = false := h.blk.frozen
  obtain ⟨Wa, hWa, Ha, ka⟩ := put_named (C' := C.tick) h 8 (.int .i64 (((C.ticks + 1) % 4))) rfl rfl rfl
  have d8 : Wa.cell? ⟨q, 8, none⟩ = some (.int .i64 (((C.ticks + 1) % 4))) := Ha.blk.cell rfl
  have d7 : Wa.cell? ⟨q, 7, none⟩ = some (.string C.asked) := Ha.blk.cell rfl
  have e1 : IntKind.i64.wrap (C.ticks + 1) = C.ticks + 1 := wrapC (by omega) (by omega)
  have HTo : Hid _ := toAll_calls C.asked Wa Ha f hf hf1
  have HF : Hid (St w0 Wa p b x y T S q tm tc av C.tick ∧ Kpt av w Wa) := ⟨Ha, ka _ _ (Kpt.refl _)⟩
  have n1 : (((C.ticks + 1) % 4) != 0) = false := by rw [ht]; rfl
  have n2 : decide ((C.ticks + 1) % 4 = 0) = true := decide_eq_true ht
  have n3 : (((C.ticks + 1) % 4) == 0) = true := n2
  have e2 : IntKind.i64.wrap ((C.ticks + 1) % 4) = (C.ticks + 1) % 4 := wrapC (by omega) (by omega)
  clear ka Ha h hf ht
  go_enter Try.func16, Try.ntmps16
  go_wp2_with fail
  refine Calls.mono HW.out ?_
  rintro e w ⟨rfl, rfl⟩
  go_wp2_with fail
  refine Calls.mono HTo.out ?_
  rintro e w3 ⟨v, rfl, T3, b3⟩
  go_wp2
  go_ret
  exact ⟨v, rfl, T3, HF.out.1.keep b3, HF.out.2.trans (Kpt.of_below b3)⟩
theorem enough_calls (n f : Int) (w : World) (h : 0 ≤ f ∧ f ≤ 1000) : Calls Try.prog 40 #[.int .i64 n, .int .i64 f] w fun e w' => e = .returned (.bool (decide (f + 1 ≤ n))) ∧ w' = w := by
  have e1 : IntKind.i64.wrap (f + 1) = f + 1 := wrapC (by omega) (by omega)
  go_enter Try.func40, Try.ntmps40
  go_wp2
  go_ret
  exact ⟨rfl, rfl⟩

/-- The law's model of a client. -/
structure Mo where
  f : Int
  id : Int
  stamp : Int
  ticks : Int
  waits : Bool
  asked : ByteArray
  heard : Rps
  ans : Rps
def moC (Y : Mo) (hv yv : Value) : Array Value := #[.int .i64 Y.f, .int .i64 Y.id, .int .i64 Y.stamp, .int .i64 Y.ticks, .bool Y.waits, .string Y.asked, hv, yv]
structure Md (w0 w : World) (m : Nat) (hv yv : Value) (Y : Mo) : Prop where
  below : Below w0.heap.size w0 w
  blk : Blk w m (moC Y hv yv) 37
  hrow : w.ownsRow w0.heap.size 101 2 hv Y.heard.length (anC Y.heard)
  arow : w.ownsRow w0.heap.size 44 2 yv Y.ans.length (anC Y.ans)
  low : w0.heap.size ≤ m
/-- What the model's own calls leave. -/
structure Ofm (m : Nat) (hv yv : Value) (w w' : World) : Prop where
  os : w'.os = w.os
  tape : w'.tape = w.tape
  output : w'.output = w.output
  size : w.heap.size ≤ w'.heap.size
  block : ∀ k, k < w.heap.size → k ≠ m → hv.ownBlock ≠ some k → yv.ownBlock ≠ some k → w'.heap[k]? = w.heap[k]?
/-- The rows of answers of the client and of the model lie apart. -/
def Apt (av yv : Value) : Prop := ∀ k, av.ownBlock = some k → yv.ownBlock ≠ some k
variable {m : Nat} {hv yv : Value} {Y : Mo}
theorem own_same {w w' : World} {base n z : Nat} {t : TypeId} {v : Value} {xs : List Value} (h : w.ownsRow base t z v n xs) (hk : ∀ k cur, v.ownBlock = some k → w.heap[k]? = some (.cells cur t (0, 0)) → w'.heap[k]? = w.heap[k]?) : w'.ownsRow base t z v n xs := by
  refine ⟨h.1, ?_⟩
  rcases h.2 with hn | ⟨g, cap, cur, rfl, hb, hgg, rest⟩
  · exact Or.inl hn
  · exact Or.inr ⟨g, cap, cur, rfl, hb, (hk g cur rfl hgg).trans hgg, rest⟩
theorem Md.keep {w w' : World} (h : Md w0 w m hv yv Y) (hb : Below w.heap.size w w') : Md w0 w' m hv yv Y :=
  ⟨h.below.trans (hb.mono h.below.size), h.blk.below hb, own_below h.hrow hb, own_below h.arow hb, h.low⟩
/-- The model behind a call of the client. -/
theorem Md.kpt {w w' : World} (h : Md w0 w m hv yv Y) (hs : St w0 w p b x y T S q tm tc av C) (hB : Below w0.heap.size w0 w') (k : Kpt av w w') (hA : Apt av yv) : Md w0 w' m hv yv Y :=
  ⟨hB, k.blk _ _ _ (by decide) (hs.apart h.blk (fun cur e => by cases e)) h.blk,
   own_same h.hrow (fun j cur hj hc => (k.blk j cur _ (by decide) (hs.apart hc (fun cur e => by cases e)) hc).trans hc.symm),
   own_same h.arow (fun j cur hj hc => (k.blk j cur _ (by decide) (fun e => hA j e hj) hc).trans hc.symm), h.low⟩
theorem Md.off2 {w w' : World} (h : Md w0 w m hv yv Y) (hs : St w0 w p b x y T S q tm tc av C) (hB : Below w0.heap.size w0 w') (ho : Off2 x y w w') : Md w0 w' m hv yv Y :=
  have k : Kpt (.slice none 0 0) w w' := Kpt.of_off2 hs.book ho
  ⟨hB, k.blk _ _ _ (by decide) (by simp [Value.ownBlock]) h.blk,
   own_same h.hrow (fun j cur hj hc => (k.blk j cur _ (by decide) (by simp [Value.ownBlock]) hc).trans hc.symm),
   own_same h.arow (fun j cur hj hc => (k.blk j cur _ (by decide) (by simp [Value.ownBlock]) hc).trans hc.symm), h.low⟩
/-- The client behind a call of the model. -/
theorem St.ofm {w w' : World} (h : St w0 w p b x y T S q tm tc av C) (hm : Md w0 w m hv yv Y) (ho : Ofm m hv yv w w') (hA : Apt av yv) : St w0 w' p b x y T S q tm tc av C := by
  have G : ∀ (k : Nat) (o : Obj), w.heap[k]? = some o → (∀ cs, o ≠ .cells cs 37 (0, 0)) → (∀ cs, o ≠ .cells cs 101 (0, 0)) → yv.ownBlock ≠ some k → w'.heap[k]? = some o := fun k o hk h1 h2 h3 => by
    refine (ho.block k (lt_of_heap hk) (fun e => ?_) (fun e => ?_) h3).trans hk
    · have X := hm.blk
      unfold Blk at X
      rw [← e, hk] at X
      exact h1 _ (Option.some.inj X)
    · obtain ⟨cur, hc⟩ := own_heap hm.hrow e
      rw [hk] at hc
      exact h2 _ (Option.some.inj hc)
  have GA : ∀ (k : Nat) (o : Obj), w.heap[k]? = some o → (∀ cs, o ≠ .cells cs 44 (0, 0)) → yv.ownBlock ≠ some k := fun k o hk h1 e => by
    obtain ⟨cur, hc⟩ := own_heap hm.arow e
    rw [hk] at hc
    exact h1 _ (Option.some.inj hc)
  have G2 : ∀ (k : Nat) (o : Obj), w.heap[k]? = some o → (∀ cs, o ≠ .cells cs 37 (0, 0)) → (∀ cs, o ≠ .cells cs 101 (0, 0)) → (∀ cs, o ≠ .cells cs 44 (0, 0)) → w'.heap[k]? = some o := fun k o hk h1 h2 h3 => G k o hk h1 h2 (GA k o hk h3)
  refine ⟨⟨ho.os.trans h.below.os, ho.tape.trans h.below.tape, ho.output.trans h.below.output, Nat.le_trans h.below.size ho.size, fun k hk => ?_⟩, ⟨G2 _ _ h.book.blk (fun _ e => by cases e) (fun _ e => by cases e) (fun _ e => by cases e), G2 _ _ h.book.nums.blk (fun _ e => by cases e) (fun _ e => by cases e) (fun _ e => by cases e), G2 _ _ h.book.nums.mx (fun _ e => by cases e) (fun _ e => by cases e) (fun _ e => by cases e), G2 _ _ h.book.nums.my (fun _ e => by cases e) (fun _ e => by cases e) (fun _ e => by cases e), h.book.nums.ne⟩, G2 _ _ h.blk (fun _ e => by cases e) (fun _ e => by cases e) (fun _ e => by cases e), G2 _ _ h.map (fun _ e => by cases e) (fun _ e => by cases e) (fun _ e => by cases e), ?_, h.low, h.nx, h.ny⟩
  · have hz := h.below.size
    refine (ho.block k (by omega) (by have := hm.low; omega) (fun e => ?_) (fun e => ?_)).trans (h.below.block k hk)
    · have := (hm.hrow.lt k e).1; omega
    · have := (hm.arow.lt k e).1; omega
  · exact own_same h.row (fun j cur hj hc => (G j _ hc (fun _ e => by cases e) (fun _ e => by cases e) (hA j hj)).trans hc.symm)
end Go.Proofs.Ytbbhihkeljpikaa

namespace Go.Proofs.Ytbbhihkeljpikaa
open Go.RowKit
set_option linter.unusedSimpArgs false
set_option linter.unusedVariables false

variable {p b x y : Nat} {T : List ByteArray} {S : List (Int × ByteArray)} {q tm tc : Nat} {av : Value} {C : Cs} {w0 : World} {m : Nat} {hv yv : Value} {Y : Mo}
theorem infohearN : (Try.prog.info? 101).map (fun i => (i.zero, i.size, i.bytes)) = some (some (.agg #[.int .i64 0, .string ⟨#[]⟩]), 2, 24) := by kernel_rfl
theorem infoansN : (Try.prog.info? 44).map (fun i => (i.zero, i.size, i.bytes)) = some (some (.agg #[.int .i64 0, .string ⟨#[]⟩]), 2, 24) := by kernel_rfl
theorem Md.hearN {w : World} (h : Md w0 w m hv yv Y) (hl : Y.heard.length < 1000000) (k : Int) (t : ByteArray) :
    ∃ W4, w.alloc (.cells #[.int .i64 k, .string t] 101) = W4 ∧ ∃ hv' W5, (∃ g n c, hv' = .slice g n c) ∧ (Builtin.append_ #[34, 34] 34 #[hv, .slice (some ⟨w.heap.size, 0, none⟩) 1 1]).run Try.prog W4 = .ok hv' W5 ∧ Blk W4 m (moC Y hv yv) 37 ∧ Blk W5 m (moC Y hv yv) 37 ∧ ∃ W6, W5.setCell ⟨m, 6, none⟩ hv' = W6 ∧ Md w0 W6 m hv' yv { Y with heard := Y.heard ++ [(k, t)] } ∧ Ofm m hv yv w W6 ∧ Frs hv hv' w := by
  obtain ⟨i0, hi, hz0, hz1, hz2⟩ := info_parts infohearN
  obtain ⟨W4, hW4, X4, B4, Z4⟩ : ∃ W4, w.alloc (.cells #[.int .i64 k, .string t] 101) = W4 ∧ Blk W4 w.heap.size #[.int .i64 k, .string t] 101 ∧ Below w.heap.size w W4 ∧ W4.heap.size = w.heap.size + 1 :=
    ⟨_, rfl, blk_new _ _ _ _ rfl, by go_grown, by simp⟩
  have H4 := h.keep B4
  have hlw := h.low
  have hz0w := h.below.size
  obtain ⟨g, cap', W5, hrun, own5, grow5, at5, lt5⟩ := run_append_lies (P := Try.prog) W4 34 34 w0.heap.size 101 i0 (.agg #[.int .i64 0, .string ⟨#[]⟩]) 2 24 Try.underlying34 hi hz0 hz1 hz2 rfl (by decide) hv Y.heard.length (anC Y.heard) H4.hrow ⟨w.heap.size, 0, none⟩ 1 1 [.int .i64 k, .string t] rfl
    (by intro j u hj; rw [Addr.add_lit, Nat.zero_add]; exact X4.cell (by simpa using hj)) (by simp [Value.oneCell']) (by decide) (by unfold maxLen; omega) (by omega) (by omega) (w.heap.size + 1) Z4
  refine ⟨W4, hW4, .slice (some ⟨g, 0, none⟩) (Y.heard.length + 1) cap', W5, ⟨_, _, _, rfl⟩, hrun, H4.blk, ?_⟩
  have hq4 : m < W4.heap.size := H4.blk.lt
  have naq : hv.ownBlock ≠ some m := fun e => by
    obtain ⟨cur, hc⟩ := own_heap H4.hrow e
    have X := H4.blk
    unfold Blk at X
    rw [hc] at X
    cases X
  have nao : ∀ j, yv.ownBlock = some j → hv.ownBlock ≠ some j := fun j hj e => by
    obtain ⟨cur, hc⟩ := own_heap H4.hrow e
    obtain ⟨cur2, hc2⟩ := own_heap H4.arow hj
    rw [hc] at hc2
    cases hc2
  have P5 : Blk W5 m (moC Y hv yv) 37 := (grow5.block m hq4 (fun e => naq e.symm)).trans H4.blk
  refine ⟨P5, _, rfl, ?_⟩
  have hgq : g ≠ m := by
    rcases at5 with e | e
    · intro f; rw [f] at e; exact naq e
    · omega
  have z5 := grow5.size
  have G : ∀ j, j < W4.heap.size → hv.ownBlock ≠ some j → j ≠ m → (W5.setCell ⟨m, 6, none⟩ (.slice (some ⟨g, 0, none⟩) (Y.heard.length + 1) cap')).heap[j]? = W4.heap[j]? := fun j hj hne hk => by
    rw [heap_setCell_other W5 ⟨m, 6, none⟩ j _ hk]
    exact grow5.block j hj (fun e => hne e.symm)
  have e1 : (Y.heard ++ [(k, t)]).length = Y.heard.length + 1 := by simp
  have hnew : (W5.setCell ⟨m, 6, none⟩ (.slice (some ⟨g, 0, none⟩) (Y.heard.length + 1) cap')).ownsRow w0.heap.size 101 2 (.slice (some ⟨g, 0, none⟩) (Y.heard.length + 1) cap') (Y.heard ++ [(k, t)]).length (anC (Y.heard ++ [(k, t)])) := by
    rw [e1, anC_snoc]
    exact own5.kept (row := some m) ⟨rfl, rfl, rfl, by rw [World.size_setCell]; exact Nat.le_refl _, fun k hk hkp => Below.heap_setCell _ _ _ _ (by intro e; exact hkp (by rw [e]))⟩ (Or.inr (by simpa [Value.ownBlock] using hgq))
  have hold : (W5.setCell ⟨m, 6, none⟩ (.slice (some ⟨g, 0, none⟩) (Y.heard.length + 1) cap')).ownsRow w0.heap.size 44 2 yv Y.ans.length (anC Y.ans) :=
    own_same H4.arow (fun j cur hj hc => G j (lt_of_heap hc) (nao j hj) (fun e => by
      have X := H4.blk
      unfold Blk at X
      rw [← e, hc] at X
      cases X))
  refine ⟨⟨⟨?_, ?_, ?_, ?_, ?_⟩, P5.set 6 _, hnew, hold, h.low⟩, ⟨?_, ?_, ?_, ?_, ?_⟩, ?_⟩
  · exact grow5.os.trans H4.below.os
  · exact grow5.tape.trans H4.below.tape
  · exact grow5.output.trans H4.below.output
  · rw [World.size_setCell]; exact Nat.le_trans H4.below.size z5
  · intro j hj
    exact (G j (by omega) (fun e => by have := (H4.hrow.lt j e).1; omega) (by omega)).trans (H4.below.block j hj)
  · exact grow5.os.trans B4.os
  · exact grow5.tape.trans B4.tape
  · exact grow5.output.trans B4.output
  · rw [World.size_setCell]; omega
  · intro j hj h1 h2 h3
    exact (G j (by omega) h2 h1).trans (B4.block j hj)
  · rcases at5 with e | e
    · left; rw [e]; rfl
    · right
      intro j hj
      simp only [Value.ownBlock, Option.some.injEq] at hj
      omega
theorem Md.ansN {w : World} (h : Md w0 w m hv yv Y) (hl : Y.ans.length < 1000000) (k : Int) (t : ByteArray) :
    ∃ W4, w.alloc (.cells #[.int .i64 k, .string t] 44) = W4 ∧ ∃ yv' W5, (∃ g n c, yv' = .slice g n c) ∧ (Builtin.append_ #[35, 35] 35 #[yv, .slice (some ⟨w.heap.size, 0, none⟩) 1 1]).run Try.prog W4 = .ok yv' W5 ∧ Blk W4 m (moC Y hv yv) 37 ∧ Blk W5 m (moC Y hv yv) 37 ∧ ∃ W6, W5.setCell ⟨m, 7, none⟩ yv' = W6 ∧ Md w0 W6 m hv yv' { Y with ans := Y.ans ++ [(k, t)] } ∧ Ofm m hv yv w W6 ∧ Frs yv yv' w := by
  obtain ⟨i0, hi, hz0, hz1, hz2⟩ := info_parts infoansN
  obtain ⟨W4, hW4, X4, B4, Z4⟩ : ∃ W4, w.alloc (.cells #[.int .i64 k, .string t] 44) = W4 ∧ Blk W4 w.heap.size #[.int .i64 k, .string t] 44 ∧ Below w.heap.size w W4 ∧ W4.heap.size = w.heap.size + 1 :=
    ⟨_, rfl, blk_new _ _ _ _ rfl, by go_grown, by simp⟩
  have H4 := h.keep B4
  have hlw := h.low
  have hz0w := h.below.size
  obtain ⟨g, cap', W5, hrun, own5, grow5, at5, lt5⟩ := run_append_lies (P := Try.prog) W4 35 35 w0.heap.size 44 i0 (.agg #[.int .i64 0, .string ⟨#[]⟩]) 2 24 Try.underlying35 hi hz0 hz1 hz2 rfl (by decide) yv Y.ans.length (anC Y.ans) H4.arow ⟨w.heap.size, 0, none⟩ 1 1 [.int .i64 k, .string t] rfl
    (by intro j u hj; rw [Addr.add_lit, Nat.zero_add]; exact X4.cell (by simpa using hj)) (by simp [Value.oneCell']) (by decide) (by unfold maxLen; omega) (by omega) (by omega) (w.heap.size + 1) Z4
  refine ⟨W4, hW4, .slice (some ⟨g, 0, none⟩) (Y.ans.length + 1) cap', W5, ⟨_, _, _, rfl⟩, hrun, H4.blk, ?_⟩
  have hq4 : m < W4.heap.size := H4.blk.lt
  have naq : yv.ownBlock ≠ some m := fun e => by
    obtain ⟨cur, hc⟩ := own_heap H4.arow e
    have X := H4.blk
    unfold Blk at X
    rw [hc] at X
    cases X
  have nao : ∀ j, hv.ownBlock = some j → yv.ownBlock ≠ some j := fun j hj e => by
    obtain ⟨cur, hc⟩ := own_heap H4.arow e
    obtain ⟨cur2, hc2⟩ := own_heap H4.hrow hj
    rw [hc] at hc2
    cases hc2
  have P5 : Blk W5 m (moC Y hv yv) 37 := (grow5.block m hq4 (fun e => naq e.symm)).trans H4.blk
  refine ⟨P5, _, rfl, ?_⟩
  have hgq : g ≠ m := by
    rcases at5 with e | e
    · intro f; rw [f] at e; exact naq e
    · omega
  have z5 := grow5.size
  have G : ∀ j, j < W4.heap.size → yv.ownBlock ≠ some j → j ≠ m → (W5.setCell ⟨m, 7, none⟩ (.slice (some ⟨g, 0, none⟩) (Y.ans.length + 1) cap')).heap[j]? = W4.heap[j]? := fun j hj hne hk => by
    rw [heap_setCell_other W5 ⟨m, 7, none⟩ j _ hk]
    exact grow5.block j hj (fun e => hne e.symm)
  have e1 : (Y.ans ++ [(k, t)]).length = Y.ans.length + 1 := by simp
  have hnew : (W5.setCell ⟨m, 7, none⟩ (.slice (some ⟨g, 0, none⟩) (Y.ans.length + 1) cap')).ownsRow w0.heap.size 44 2 (.slice (some ⟨g, 0, none⟩) (Y.ans.length + 1) cap') (Y.ans ++ [(k, t)]).length (anC (Y.ans ++ [(k, t)])) := by
    rw [e1, anC_snoc]
    exact own5.kept (row := some m) ⟨rfl, rfl, rfl, by rw [World.size_setCell]; exact Nat.le_refl _, fun k hk hkp => Below.heap_setCell _ _ _ _ (by intro e; exact hkp (by rw [e]))⟩ (Or.inr (by simpa [Value.ownBlock] using hgq))
  have hold : (W5.setCell ⟨m, 7, none⟩ (.slice (some ⟨g, 0, none⟩) (Y.ans.length + 1) cap')).ownsRow w0.heap.size 101 2 hv Y.heard.length (anC Y.heard) :=
    own_same H4.hrow (fun j cur hj hc => G j (lt_of_heap hc) (nao j hj) (fun e => by
      have X := H4.blk
      unfold Blk at X
      rw [← e, hc] at X
      cases X))
  refine ⟨⟨⟨?_, ?_, ?_, ?_, ?_⟩, P5.set 7 _, hold, hnew, h.low⟩, ⟨?_, ?_, ?_, ?_, ?_⟩, ?_⟩
  · exact grow5.os.trans H4.below.os
  · exact grow5.tape.trans H4.below.tape
  · exact grow5.output.trans H4.below.output
  · rw [World.size_setCell]; exact Nat.le_trans H4.below.size z5
  · intro j hj
    exact (G j (by omega) (fun e => by have := (H4.arow.lt j e).1; omega) (by omega)).trans (H4.below.block j hj)
  · exact grow5.os.trans B4.os
  · exact grow5.tape.trans B4.tape
  · exact grow5.output.trans B4.output
  · rw [World.size_setCell]; omega
  · intro j hj h1 h2 h3
    exact (G j (by omega) h3 h1).trans (B4.block j hj)
  · rcases at5 with e | e
    · left; rw [e]; rfl
    · right
      intro j hj
      simp only [Value.ownBlock, Option.some.injEq] at hj
      omega
theorem Ofm.trans {hv' yv' : Value} {u z w : World} (h : Ofm m hv yv u z) (k : Ofm m hv' yv' z w) (f1 : Frs hv hv' u) (f2 : Frs yv yv' u) : Ofm m hv yv u w :=
  ⟨k.os.trans h.os, k.tape.trans h.tape, k.output.trans h.output, Nat.le_trans h.size k.size, fun j hj h1 h2 h3 => (k.block j (Nat.lt_of_lt_of_le hj h.size) h1
    (fun e => by rcases f1 with e1 | e1; exact h2 (e1 ▸ e); exact absurd (e1 j e) (by omega))
    (fun e => by rcases f2 with e1 | e1; exact h3 (e1 ▸ e); exact absurd (e1 j e) (by omega))).trans (h.block j hj h1 h2 h3)⟩
/-- A store of one of the model's numbers. -/
theorem Md.put {w : World} {Y' : Mo} (h : Md w0 w m hv yv Y) (o : Nat) (u : Value) (hc : (moC Y hv yv).setIfInBounds o u = moC Y' hv yv) (h1 : Y'.heard = Y.heard) (h2 : Y'.ans = Y.ans) :
    ∃ W, w.setCell ⟨m, o, none⟩ u = W ∧ Md w0 W m hv yv Y' ∧ Ofm m hv yv w W := by
  have hlw := h.low
  have G : ∀ j, j ≠ m → (w.setCell ⟨m, o, none⟩ u).heap[j]? = w.heap[j]? := fun j hj => heap_setCell_other w ⟨m, o, none⟩ j u hj
  have nm : ∀ (t : TypeId) (v : Value) (base n z : Nat) (xs : List Value), t ≠ 37 → w.ownsRow base t z v n xs → ∀ k cur, v.ownBlock = some k → w.heap[k]? = some (.cells cur t (0, 0)) → (w.setCell ⟨m, o, none⟩ u).heap[k]? = w.heap[k]? := fun t v base n z xs ht ho k cur hk hcc => G k (fun e => by
    have X := h.blk
    unfold Blk at X
    rw [← e, hcc] at X
    exact ht (by simpa using (Obj.cells.inj (Option.some.inj X)).2.1))
  refine ⟨_, rfl, ⟨⟨h.below.os, h.below.tape, h.below.output, by rw [World.size_setCell]; exact h.below.size, fun j hj => (G j (by omega)).trans (h.below.block j hj)⟩, hc ▸ h.blk.set o u, ?_, ?_, h.low⟩, ⟨rfl, rfl, rfl, by rw [World.size_setCell]; exact Nat.le_refl _, fun j hj hm _ _ => G j hm⟩⟩
  · rw [h1]; exact own_same h.hrow (nm _ _ _ _ _ _ (by decide) h.hrow)
  · rw [h2]; exact own_same h.arow (nm _ _ _ _ _ _ (by decide) h.arow)
end Go.Proofs.Ytbbhihkeljpikaa

namespace Go.Proofs.Ytbbhihkeljpikaa
open Go.RowKit
set_option linter.unusedSimpArgs false
set_option linter.unusedVariables false

variable {p b x y : Nat} {T : List ByteArray} {S : List (Int × ByteArray)} {q tm tc : Nat} {av : Value} {C : Cs} {w0 : World} {m : Nat} {hv yv : Value} {Y : Mo}
def Mo.takes (Y : Mo) (who st : Int) : Bool := Y.waits && decide ((st = Y.stamp ∧ 0 ≤ who ∧ who ≤ 3 * Y.f) ∧ rgot Y.heard who = false)
def Mo.took (Y : Mo) (who st : Int) (t : ByteArray) : Mo := if Y.f + 1 ≤ 1 + (alk Y.heard t : Int) then { Y with heard := Y.heard ++ [(who, t)], waits := false, ans := Y.ans ++ [(st, t)] } else { Y with heard := Y.heard ++ [(who, t)] }
def Mo.hears (Y : Mo) (who st : Int) (t : ByteArray) : Mo := if Y.takes who st = true then Y.took who st t else Y
theorem anC_get : ∀ (l : Rps) (k : Nat) (h : k < l.length), (anC l)[k * 2]? = some (.int .i64 l[k].1) ∧ (anC l)[k * 2 + 1]? = some (.string l[k].2)
  | z :: l, 0, _ => ⟨rfl, rfl⟩
  | z :: l, k + 1, h => by
    have ih := anC_get l k (by simpa using h)
    have e : anC (z :: l) = [.int .i64 z.1, .string z.2] ++ anC l := by simp [anC]
    rw [e, List.getElem?_append_right (by simp; omega), List.getElem?_append_right (by simp; omega)]
    simp only [List.length_cons, List.length_nil, List.getElem_cons_succ]
    rw [show (k + 1) * 2 - (0 + 1 + 1) = k * 2 by omega, show (k + 1) * 2 + 1 - (0 + 1 + 1) = k * 2 + 1 by omega]
    exact ih
theorem own_sl {w : World} {base n z : Nat} {t : TypeId} {v : Value} {xs : List Value} (h : w.ownsRow base t z v n xs) : ∃ a cap, v = .slice a n cap := by
  rcases h.2 with ⟨rfl, h3⟩ | ⟨g, cap, cur, rfl, _⟩
  · exact ⟨none, 0, by rw [h3]⟩
  · exact ⟨_, _, rfl⟩
/-- The step at an append whose run is known. -/
theorem wpl_append {P : Program} {ops : Array Oper} {rest : List Oper} {dst : Option Tmp} {type : TypeId} {pos : String} {after : Array Edge} {a : Act} {w w' : World} {Q : Exit → Act → World → Prop} {s x : Operand} {t : TypeId} {v u v' : Value}
    (hs : a.eval s = v) (hx : a.eval x = u) (hr : (Builtin.append_ #[t, t] type #[v, u]).run P w = .ok v' w') (h : wpList P ops Q rest (a.put dst v') w') :
    wpList P ops Q ({ dst := dst, op := .call { callee := .builtin .append, args := #[s, x], argTypes := #[t, t] }, type := type, pos := pos, after := after, guard := none } :: rest) a w :=
  wpList_plain rfl fun K hK => by
    unfold Oper.wp execOp
    simp only [resolve, invoke, builtin, Sem.run_bind, Sem.run_pure, Result.andThen_ok, List.map_toArray, List.map_cons, List.map_nil, hs, hx, hr]
    exact hK _ _ h
theorem rgot_any {l : Rps} {k : Int} (h : ∀ j (hj : j < l.length), ¬ l[j].1 = k) : rgot l k = false := by
  unfold rgot
  rw [List.any_eq_false]
  intro z hz
  obtain ⟨j, hj, rfl⟩ := List.getElem_of_mem hz
  have := h j hj
  simp
  omega
theorem rgot_at {l : Rps} {k : Int} {j : Nat} (hj : j < l.length) (h : l[j].1 = k) : rgot l k = true := by
  unfold rgot
  rw [List.any_eq_true]
  exact ⟨l[j], List.getElem_mem hj, by simp [h]⟩
theorem hears_not (who st : Int) (t : ByteArray) (h : Y.takes who st = false) : Y.hears who st t = Y := by unfold Mo.hears; rw [h]; rfl

set_option maxHeartbeats 8000000 in
set_option maxRecDepth 100000 in
theorem mhears_calls (who st : Int) (t : ByteArray) (w : World) (h : Md w0 w m hv yv Y) (hf : 0 ≤ Y.f ∧ Y.f ≤ 4) (hh : Y.heard.length ≤ 1000) (ha : Y.ans.length ≤ 1000) :
    Calls Try.prog 22 #[.pointer (some ⟨m, 0, none⟩), .int .i64 who, .int .i64 st, .string t] w fun e w' => e = .returned (.bool (Y.takes who st)) ∧ ∃ hv' yv', Md w0 w' m hv' yv' (Y.hears who st t) ∧ Ofm m hv yv w w' ∧ Frs yv yv' w := by
  have HS : Hid (Md w0 w m hv yv Y ∧ Ofm m hv yv w w ∧ Frs yv yv w) := ⟨h, ⟨rfl, rfl, rfl, Nat.le_refl _, fun _ _ _ _ _ => rfl⟩, Or.inl rfl⟩
  have HN : Hid (Y.takes who st = false → ∃ hv' yv', Md w0 w m hv' yv' (Y.hears who st t) ∧ Ofm m hv yv w w ∧ Frs yv yv' w) := fun hn => ⟨hv, yv, by rw [hears_not _ _ _ hn]; exact HS.out.1, HS.out.2⟩
  have c0 : w.cell? ⟨m, 0, none⟩ = some (.int .i64 Y.f) := h.blk.cell rfl
  have c2 : w.cell? ⟨m, 2, none⟩ = some (.int .i64 Y.stamp) := h.blk.cell rfl
  have c4 : w.cell? ⟨m, 4, none⟩ = some (.bool Y.waits) := h.blk.cell rfl
  have c6 : w.cell? ⟨m, 6, none⟩ = some hv := h.blk.cell rfl
  obtain ⟨ha0, hcap, hhv0⟩ := own_sl h.hrow
  have HHV : Hid (hv = .slice ha0 Y.heard.length hcap) := hhv0
  clear hhv0
  have e3 : IntKind.i64.wrap (3 * Y.f) = 3 * Y.f := wrapC (by omega) (by omega)
  cases hw : Y.waits with
  | false =>
    rw [hw] at c4
    have hn : Y.takes who st = false := by unfold Mo.takes; rw [hw]; rfl
    have HF : Hid _ := HN.out hn
    rw [hn]
    go_enter Try.func22, Try.ntmps22
    go_wp2
    go_ret
    exact ⟨rfl, HF.out⟩
  | true =>
    rw [hw] at c4
    by_cases h1 : st = Y.stamp
    rotate_left
    · have hn : Y.takes who st = false := by unfold Mo.takes; rw [decide_eq_false (fun h => h1 h.1.1), Bool.and_false]
      have HF : Hid _ := HN.out hn
      rw [hn]
      have d1 : (st == Y.stamp) = false := by simpa using h1
      have d2 : decide (st = Y.stamp) = false := decide_eq_false h1
      have d3 : (st != Y.stamp) = true := by rw [bne, d1]; rfl
      clear h1
      go_enter Try.func22, Try.ntmps22
      go_wp2
      go_ret
      exact ⟨rfl, HF.out⟩
    have d1 : (st == Y.stamp) = true := by simpa using h1
    have d2 : decide (st = Y.stamp) = true := decide_eq_true h1
    have d3 : (st != Y.stamp) = false := by rw [bne, d1]; rfl
    by_cases h2 : who < 0
    · have hn : Y.takes who st = false := by unfold Mo.takes; rw [decide_eq_false (fun h => absurd h.1.2.1 (by omega)), Bool.and_false]
      have HF : Hid _ := HN.out hn
      rw [hn]
      have d4 : decide (who < 0) = true := decide_eq_true h2
      clear h1
      go_enter Try.func22, Try.ntmps22
      go_wp2
      go_ret
      exact ⟨rfl, HF.out⟩
    have d4 : decide (who < 0) = false := decide_eq_false h2
    by_cases h3 : 3 * Y.f < who
    · have hn : Y.takes who st = false := by unfold Mo.takes; rw [decide_eq_false (fun h => absurd h.1.2.2 (by omega)), Bool.and_false]
      have HF : Hid _ := HN.out hn
      rw [hn]
      have d5 : decide (3 * Y.f < who) = true := decide_eq_true h3
      clear h1
      go_enter Try.func22, Try.ntmps22
      go_wp2
      go_ret
      exact ⟨rfl, HF.out⟩
    have d5 : decide (3 * Y.f < who) = false := decide_eq_false h3
    have HT : Hid (rgot Y.heard who = false → Y.takes who st = true) := fun hg => by unfold Mo.takes; rw [hw, Bool.true_and]; exact decide_eq_true ⟨⟨h1, by omega, by omega⟩, hg⟩
    have HG : Hid (rgot Y.heard who = true → Y.takes who st = false) := fun hg => by unfold Mo.takes; rw [decide_eq_false (fun h => by rw [hg] at h; exact absurd h.2 (by decide)), Bool.and_false]
    have HW0 : Hid _ := hw
    obtain ⟨l, hL⟩ : ∃ l, Y.heard = l := ⟨_, rfl⟩
    have HL : Hid _ := hL
    have hll : l.length ≤ 1000 := by rw [← hL]; exact hh
    have HMd : Hid _ := h
    have hhv := HHV.out
    rw [hL] at hhv
    subst hhv
    clear HHV
    obtain ⟨TK, hTK⟩ : ∃ TK, Y.takes who st = TK := ⟨_, rfl⟩
    obtain ⟨Y2, hY2⟩ : ∃ Y2, Y.hears who st t = Y2 := ⟨_, rfl⟩
    have HTK : Hid _ := hTK
    have HY2 : Hid _ := hY2
    rw [hTK, hY2]
    rw [hTK] at HN HT HG
    rw [hY2] at HN
    clear hTK hY2
    have HCe : Hid (∀ k (hk : k < l.length), ∃ g, ha0 = some ⟨g, 0, none⟩ ∧ l.length ≤ hcap ∧ w.cell? ⟨g, k * 2, none⟩ = some (.int .i64 l[k].1) ∧ w.cell? ⟨g, k * 2 + 1, none⟩ = some (.string l[k].2)) := fun k hk => by
      have hr := HMd.out.hrow
      rw [hL] at hr
      obtain ⟨g, cap, hv1, _, hcp, hcell⟩ := own_at hr (by omega)
      injection hv1 with i1 i2 i3
      subst i1 i3
      have := anC_get l k hk
      exact ⟨g, rfl, hcp, hcell _ _ this.1, hcell _ _ this.2⟩
    obtain ⟨W4, hW4, hv5, W5, ⟨g5, n5, k5, rfl⟩, hrun, X4, X5, W6, hW6, M6, o6, f6⟩ := h.hearN (by rw [hL]; omega) who t
    have z6 : W4.cell? ⟨m, 6, none⟩ = some (.slice ha0 l.length hcap) := X4.cell rfl
    have z5 : W5.cell? ⟨m, 6, none⟩ = some (.slice ha0 l.length hcap) := X5.cell rfl
    have fz5 : W5.frozen? ⟨m, 6, none⟩ = false := X5.frozen
    have y0 : W6.cell? ⟨m, 0, none⟩ = some (.int .i64 Y.f) := M6.blk.cell rfl
    have y4 : W6.cell? ⟨m, 4, none⟩ = some (.bool Y.waits) := M6.blk.cell rfl
    have fy4 : W6.frozen? ⟨m, 4, none⟩ = false := M6.blk.frozen
    have HEn : Hid _ := fun n => enough_calls n Y.f W6 (by omega)
    have HM6 : Hid _ := M6
    have HO6 : Hid _ := o6
    have HF6 : Hid _ := f6
    clear h1 h2 h3 h hL M6 o6 f6 X4 X5 hw
    go_enter Try.func22, Try.ntmps22
    go_wp2
    go_loopw [9, 10] (fun nv iv wr => ∃ (k n : Nat), k ≤ l.length ∧ iv = .int .i64 k ∧ nv = .int .i64 n ∧ Hid (n = 1 + alk (l.take k) t) ∧ Hid (∀ j (hj : j < l.length), j < k → ¬ l[j].1 = who) ∧ wr = w) (fun _ iv _ => l.length - (intOf iv).toNat)
    case atStart => exact ⟨0, 1, Nat.zero_le _, rfl, rfl, rfl, fun j hj hk => absurd hk (Nat.not_lt_zero _), rfl⟩
    case round =>
      obtain ⟨k, n, hk, rfl, rfl, HK, HJ, rfl⟩ := hrel
      have hn9 : n ≤ 1001 := by
        have := HK.out
        have h2 : alk (l.take k) t ≤ (l.take k).length := List.countP_le_length
        simp at h2
        omega
      by_cases hlt : k < l.length
      · have hd : decide ((k : Int) < l.length) = true := decide_eq_true (by omega)
        obtain ⟨g, rfl, hcp, r0, r1⟩ := HCe.out k hlt
        have hsn : alk (l.take (k + 1)) t = alk (l.take k) t + if l[k].2 = t then 1 else 0 := by
          rw [List.take_succ_eq_append_getElem hlt]
          unfold alk
          rw [List.countP_append]
          by_cases hx : l[k].2 = t <;> simp [hx]
        have HSN : Hid _ := hsn
        obtain ⟨zk, hzk⟩ : ∃ zk, l[k].1 = zk := ⟨_, rfl⟩
        obtain ⟨zt, hzt⟩ : ∃ zt, l[k].2 = zt := ⟨_, rfl⟩
        rw [hzk] at r0
        rw [hzt] at r1 HSN
        have HZK : Hid _ := hzk
        clear hzk hzt hsn
        by_cases hz : zk = who
        · have i1 : (zk == who) = true := by simpa using hz
          have i2 : decide (zk = who) = true := decide_eq_true hz
          have hgt : rgot Y.heard who = true := by rw [HL.out]; exact rgot_at hlt (by rw [HZK.out]; exact hz)
          have hn := HG.out hgt
          have HF : Hid _ := HN.out hn
          subst hn
          clear hz hgt
          go_wp2
          go_ret
          exact ⟨rfl, HF.out⟩
        · have i1 : (zk == who) = false := by simpa using hz
          have i2 : decide (zk = who) = false := decide_eq_false hz
          have HNW : Hid _ := hz
          have hq := strEq zt t
          clear hz
          by_cases he : zt = t
          · rw [decide_eq_true he] at hq
            have HX : Hid _ := he
            clear he
            go_wp2
            refine ⟨⟨k + 1, n + 1, by omega, by norm_cast, by norm_cast, ?_, ?_, trivial⟩, by simp [intOf]; omega⟩
            · show _ = _
              rw [HSN.out, if_pos HX.out, HK.out]; omega
            · show ∀ j, _
              intro j hj hjk
              by_cases e : j = k
              · subst e; rw [HZK.out]; exact HNW.out
              · exact HJ.out j hj (by omega)
          · rw [decide_eq_false he] at hq
            have HX : Hid _ := he
            clear he
            go_wp2
            refine ⟨⟨k + 1, n, by omega, by norm_cast, rfl, ?_, ?_, trivial⟩, by simp [intOf]; omega⟩
            · show _ = _
              rw [HSN.out, if_neg HX.out, HK.out]; omega
            · show ∀ j, _
              intro j hj hjk
              by_cases e : j = k
              · subst e; rw [HZK.out]; exact HNW.out
              · exact HJ.out j hj (by omega)
      · have hd : decide ((k : Int) < l.length) = false := decide_eq_false (by omega)
        have hnn : n = 1 + alk Y.heard t := by rw [HK.out, List.take_of_length_le (by omega), HL.out]
        have hgf : rgot Y.heard who = false := by rw [HL.out]; exact rgot_any (fun j hj => HJ.out j hj (by omega))
        have htk := HT.out hgf
        have hHe : Y2 = Y.took who st t := by rw [← HY2.out]; unfold Mo.hears; rw [HTK.out, htk]; rfl
        subst htk
        have HHe : Hid _ := hHe
        have HEN : Hid _ := HEn.out (n : Int)
        have HNN : Hid _ := hnn
        clear hnn hgf hHe HEn
        by_cases hen : Y.f + 1 ≤ (n : Int)
        · have hed : decide (Y.f + 1 ≤ (n : Int)) = true := decide_eq_true hen
          rw [hed] at HEN
          obtain ⟨W7, hW7, M7, o7⟩ := Md.put (Y' := { Y with heard := Y.heard ++ [(who, t)], waits := false }) HM6.out 4 (.bool false) rfl rfl rfl
          obtain ⟨W8, hW8, yv9, W9, ⟨g9, n9, k9, rfl⟩, hrun9, X8, X9, W10, hW10, M10, o10, f10⟩ := M7.ansN (by show Y.ans.length < 1000000; omega) st t
          obtain ⟨ya, yc, hyv⟩ := own_sl HMd.out.arow
          have HYV : Hid _ := hyv
          have z7 : W7.cell? ⟨m, 7, none⟩ = some yv := M7.blk.cell rfl
          have z8 : W8.cell? ⟨m, 7, none⟩ = some yv := X8.cell rfl
          have z9 : W9.cell? ⟨m, 7, none⟩ = some yv := X9.cell rfl
          have f9 : W9.frozen? ⟨m, 7, none⟩ = false := X9.frozen
          have HFin : Hid (∃ hv' yv', Md w0 W10 m hv' yv' Y2 ∧ Ofm m (.slice ha0 l.length hcap) yv wr W10 ∧ Frs yv yv' wr) := by
            refine ⟨.slice g5 n5 k5, .slice g9 n9 k9, ?_, ?_, ?_⟩
            rotate_left
            · exact (HO6.out.trans o7 HF6.out (Or.inl rfl)).trans o10 HF6.out (Or.inl rfl)
            · exact f10.imp id (fun h k hk => Nat.le_trans (Nat.le_trans HO6.out.size o7.size) (h k hk))
            · have e : Y2 = { Y with heard := Y.heard ++ [(who, t)], waits := false, ans := Y.ans ++ [(st, t)] } := by
                rw [HHe.out]; unfold Mo.took; rw [if_pos (by have := HNN.out; omega)]
              rw [e]
              exact M10
          clear M7 M10 o7 o10 f10 hyv X8 X9 hen hed
          rw [HYV.out] at hrun9 z7 z8 z9
          go_wp2_with ((with_reducible refine wpl_append ?_ ?_ hrun ?_); rfl; rfl)
          refine Calls.mono HEN.out ?_
          rintro e w9 ⟨rfl, rfl⟩
          go_wp2_with ((with_reducible refine wpl_append ?_ ?_ hrun9 ?_); rfl; rfl)
          go_ret
          exact ⟨rfl, HFin.out⟩
        · have hed : decide (Y.f + 1 ≤ (n : Int)) = false := decide_eq_false hen
          rw [hed] at HEN
          have HFin : Hid (∃ hv' yv', Md w0 W6 m hv' yv' Y2 ∧ Ofm m (.slice ha0 l.length hcap) yv wr W6 ∧ Frs yv yv' wr) := by
            refine ⟨.slice g5 n5 k5, yv, ?_, HO6.out, Or.inl rfl⟩
            have e : Y2 = { Y with heard := Y.heard ++ [(who, t)] } := by
              rw [HHe.out]; unfold Mo.took; rw [if_neg (by have := HNN.out; omega)]
            rw [e]
            exact HM6.out
          clear hen hed
          go_wp2_with ((with_reducible refine wpl_append ?_ ?_ hrun ?_); rfl; rfl)
          refine Calls.mono HEN.out ?_
          rintro e w9 ⟨rfl, rfl⟩
          go_wp2
          go_ret
          exact ⟨rfl, HFin.out⟩
end Go.Proofs.Ytbbhihkeljpikaa

namespace Go.Proofs.Ytbbhihkeljpikaa
open Go.RowKit
set_option linter.unusedSimpArgs false
set_option linter.unusedVariables false

variable {p b x y : Nat} {T : List ByteArray} {S : List (Int × ByteArray)} {q tm tc : Nat} {av : Value} {C : Cs} {w0 : World} {m : Nat} {hv yv : Value} {Y : Mo}
structure Sim (C : Cs) (Y : Mo) : Prop where
  f : Y.f = C.cf
  id : Y.id = C.id
  stamp : Y.stamp = C.stamp
  waits : Y.waits = C.waits
  ans : Y.ans = C.ans
  now : C.waits = true → Y.asked = C.asked ∧ Y.heard = C.told ∧ C.ticks = Y.ticks % 4
  idle : C.waits = false → C.told = []
theorem Sim.takes (h : Sim C Y) (who st : Int) (h0 : 0 ≤ who) : C.takes who C.id st = Y.takes who st := by
  unfold Cs.takes Mo.takes
  rw [h.waits]
  cases hw : C.waits with
  | false => rfl
  | true =>
    have hn := h.now hw
    rw [Bool.true_and, Bool.true_and, h.stamp, h.f, hn.2.1]
    congr 1
    apply propext
    constructor
    · rintro ⟨h1, ⟨_, h2⟩, h3⟩
      exact ⟨⟨h2, h0, by omega⟩, h3⟩
    · rintro ⟨⟨h1, _, h2⟩, h3⟩
      exact ⟨by omega, ⟨rfl, h1⟩, h3⟩
theorem Cs.waits_eq (C : Cs) (s : ByteArray) (h : C.asked = s) : C.waits = decide (¬ s = ⟨#[]⟩) := by unfold Cs.waits; rw [h]
theorem alk_one (l : Rps) (k : Int) (t : ByteArray) : alk (l ++ [(k, t)]) t = alk l t + 1 := by
  unfold alk
  rw [List.countP_append]
  simp
theorem Sim.hears (h : Sim C Y) (who st : Int) (t : ByteArray) (h0 : 0 ≤ who) : Sim (C.hears who C.id st t) (Y.hears who st t) := by
  have ht := h.takes who st h0
  unfold Cs.hears Mo.hears
  rw [← ht]
  split
  · rename_i htk
    have hw : C.waits = true := by
      unfold Cs.takes at htk
      simp only [Bool.and_eq_true] at htk
      exact htk.1
    have hst : st = C.stamp := by
      unfold Cs.takes at htk
      simp only [Bool.and_eq_true, decide_eq_true_eq] at htk
      exact htk.2.2.1.2
    have hn := h.now hw
    unfold Mo.took
    by_cases hgt : C.cf < (alk (C.told ++ [(who, t)]) t : Int)
    · have hg2 : Y.f + 1 ≤ 1 + (alk Y.heard t : Int) := by rw [alk_one] at hgt; rw [h.f, hn.2.1]; omega
      rw [hear_yes C (who, t) hgt, if_pos hg2]
      refine ⟨h.f, h.id, h.stamp, ?_, ?_, fun hx => ?_, fun _ => rfl⟩
      · show false = _
        unfold Cs.waits; simp
      · show Y.ans ++ [(st, t)] = C.ans ++ [(C.stamp, t)]
        rw [h.ans, hst]
      · exact absurd hx (by unfold Cs.waits; simp)
    · have hg2 : ¬ Y.f + 1 ≤ 1 + (alk Y.heard t : Int) := by rw [alk_one] at hgt; rw [h.f, hn.2.1]; omega
      rw [hear_no C (who, t) hgt, if_neg hg2]
      refine ⟨h.f, h.id, h.stamp, h.waits, h.ans, fun _ => ⟨hn.1, ?_, hn.2.2⟩, fun hx => absurd (show C.waits = false from hx) (by rw [hw]; decide)⟩
      show Y.heard ++ [(who, t)] = C.told ++ [(who, t)]
      rw [hn.2.1]
  · exact h
/-- All that is there behind k steps. -/
structure Both (w0 w : World) (p b x y q tm m k : Nat) (S : List (Int × ByteArray)) (tc : Nat) (av : Value) (C : Cs) (hv yv : Value) (Y : Mo) : Prop where
  st : St w0 w p b x y [] S q tm tc av C
  md : Md w0 w m hv yv Y
  apt : Apt av yv
  sim : Sim C Y
  inv : CInv C
  sl : S.length ≤ 3 * k
  al : C.ans.length ≤ k
  hl : Y.heard.length ≤ k
  stp : 0 ≤ C.stamp ∧ C.stamp ≤ k
  tk : 0 ≤ Y.ticks ∧ Y.ticks ≤ k
  idr : 0 ≤ C.id ∧ C.id ≤ 2
theorem Both.more {w : World} {k : Nat} (h : Both w0 w p b x y q tm m k S tc av C hv yv Y) : Both w0 w p b x y q tm m (k + 1) S tc av C hv yv Y :=
  ⟨h.st, h.md, h.apt, h.sim, h.inv, by have := h.sl; omega, by have := h.al; omega, by have := h.hl; omega, by have := h.stp; omega, by have := h.tk; omega, h.idr⟩
/-- The model's heard, forgotten. -/
theorem Md.forget {w : World} (h : Md w0 w m hv yv Y) : ∃ W, w.setCell ⟨m, 6, none⟩ (.slice none 0 0) = W ∧ Md w0 W m (.slice none 0 0) yv { Y with heard := [] } ∧ Ofm m hv yv w W := by
  have hlw := h.low
  have G : ∀ j, j ≠ m → (w.setCell ⟨m, 6, none⟩ (.slice none 0 0)).heap[j]? = w.heap[j]? := fun j hj => heap_setCell_other w ⟨m, 6, none⟩ j _ hj
  refine ⟨_, rfl, ⟨⟨h.below.os, h.below.tape, h.below.output, by rw [World.size_setCell]; exact h.below.size, fun j hj => (G j (by omega)).trans (h.below.block j hj)⟩, h.blk.set 6 _, ⟨rfl, Or.inl ⟨rfl, rfl⟩⟩, own_same h.arow (fun k cur hk hcc => G k (fun e => by
    have X := h.blk
    unfold Blk at X
    rw [← e, hcc] at X
    cases X)), h.low⟩, ⟨rfl, rfl, rfl, by rw [World.size_setCell]; exact Nat.le_refl _, fun j hj hm _ _ => G j hm⟩⟩
end Go.Proofs.Ytbbhihkeljpikaa
