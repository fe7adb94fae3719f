/- The document's HMAC. -/
import Derived.Test.YtdkkleikabipgaaDoorShZ
import Derived.Test.YtdkkleikabipgaaDoorShX
import Derived.Test.YtdkkleikabipgaaDoorQtS
import Derived.Deep.AppendLies
namespace Go.Proofs.YtdkkleikabipgaaDoor
open Go.RowKit
set_option linter.unusedSimpArgs false
set_option linter.unusedVariables false

/-- One byte appended to a row of bytes of one's own: where it lies. -/
theorem wpl_app8 {ops : Array Oper} {rest : List Oper} {dst : Option Tmp} {type : TypeId} {pos : String} {after : Array Edge} {a : Act} {w : World} {Q : Exit → Act → World → Prop} {s x : Operand}
    {base n : Nat} {v : Value} {xs : List Value} (hM : w.ownsRow base 5 1 v n xs) (hn : n ≤ 100000000000) (hbase : base ≤ w.heap.size)
    (ad : Addr) (c : Nat) (u : Value) (hu : w.cell? ad = some u) (h1 : u.oneCell' = true) (hs : a.eval s = v) (hx : a.eval x = .slice (some ad) 1 c)
    (h : ∀ g cap w', w'.ownsRow base 5 1 (.slice (some ⟨g, 0, none⟩) (n + 1) cap) (n + 1) (xs ++ [u]) → w.grownBy w' v.ownBlock → (v.ownBlock = some g ∨ g = w.heap.size) → g < w'.heap.size → wpList Tryd.prog ops Q rest (a.put dst (.slice (some ⟨g, 0, none⟩) (n + 1) cap)) w') :
    wpList Tryd.prog ops Q ({ dst := dst, op := .call { callee := .builtin .append, args := #[s, x], argTypes := #[33, 33] }, type := type, pos := pos, after := after, guard := none } :: rest) a w := by
  obtain ⟨i0, hi, hz0, hz1, hz2⟩ := info_parts infoByte
  refine wpList_append_lies w rfl s x 33 rfl base 5 i0 (.int .u8 0) 1 1 Tryd.underlying33 hi hz0 hz1 hz2 rfl (by decide) v n xs hs hM ad 1 c [u] hx rfl ?_ ?_ (by decide) (by unfold maxLen; omega) (by omega) hbase w.heap.size rfl h
  · intro j v hj
    cases j with
    | zero => simp at hj; subst hj; simpa [Addr.add] using hu
    | succ j => simp at hj
  · intro v hv; simp at hv; subst hv; exact h1
def xorT (D : List UInt8) (x : UInt8) (k : Nat) : List UInt8 := (D.take k).map (· ^^^ x)
theorem xorT_snoc (D : List UInt8) (x : UInt8) (k : Nat) (h : k < D.length) : Lib.byteCells (xorT D x (k + 1)) = Lib.byteCells (xorT D x k) ++ [.int .u8 ((D.getD k 0 ^^^ x).toNat : Int)] := by
  unfold xorT
  rw [take_snocB _ _ h, List.map_append, List.map_cons, List.map_nil, byteCells_snoc _ _ rfl]

/-- The two rows so far: each one's own, and apart. -/
structure MacRows (w : World) (D : List UInt8) (j : Nat) (u v : Value) (wr : World) : Prop where
  below : Below w.heap.size w wr
  ins : wr.ownsRow w.heap.size 5 1 u j (Lib.byteCells (xorT D 54 j))
  outs : wr.ownsRow w.heap.size 5 1 v j (Lib.byteCells (xorT D 92 j))
  apart : u.ownBlock = none ∨ u.ownBlock ≠ v.ownBlock
theorem MacRows.mid {w wr w1 : World} {D : List UInt8} {j g : Nat} {u v : Value} {o : Obj} (h : MacRows w D j u v wr) (hg : (wr.alloc o).grownBy w1 u.ownBlock) (ha : u.ownBlock = some g ∨ g = (wr.alloc o).heap.size) :
    w1.ownsRow w.heap.size 5 1 v j (Lib.byteCells (xorT D 92 j)) ∧ some g ≠ v.ownBlock ∧ Below w.heap.size w w1 := by
  refine ⟨(h.outs.alloc o).kept hg ?_, ?_, (h.below.alloc h.below.size o).grown hg (by simp; exact Nat.le_trans h.below.size (Nat.le_succ _)) (fun k hk => (h.ins.lt k hk).1)⟩
  · rcases h.apart with e | e
    · rw [e]; cases v.ownBlock <;> simp
    · exact Or.inr (fun e' => e e'.symm)
  · rcases ha with e | e
    · rcases h.apart with e' | e'
      · rw [e] at e'; cases e'
      · rw [← e]; exact e'
    · intro e'
      have := (h.outs.lt g e'.symm).2
      simp at e
      omega
theorem MacRows.next {w w1 w2 : World} {D : List UInt8} {j g1 g2 c1 c2 : Nat} {v : Value} {o : Obj} (hb : Below w.heap.size w w1) (hd : some g1 ≠ v.ownBlock)
    (h1 : w1.ownsRow w.heap.size 5 1 (.slice (some ⟨g1, 0, none⟩) (j + 1) c1) (j + 1) (Lib.byteCells (xorT D 54 (j + 1)))) (hv : w1.ownsRow w.heap.size 5 1 v j (Lib.byteCells (xorT D 92 j)))
    (h2 : w2.ownsRow w.heap.size 5 1 (.slice (some ⟨g2, 0, none⟩) (j + 1) c2) (j + 1) (Lib.byteCells (xorT D 92 (j + 1))))
    (hg : (w1.alloc o).grownBy w2 v.ownBlock) (ha : v.ownBlock = some g2 ∨ g2 = (w1.alloc o).heap.size) (hl : g1 < w1.heap.size) :
    MacRows w D (j + 1) (.slice (some ⟨g1, 0, none⟩) (j + 1) c1) (.slice (some ⟨g2, 0, none⟩) (j + 1) c2) w2 := by
  refine ⟨(hb.alloc hb.size o).grown hg (by simp; exact Nat.le_trans hb.size (Nat.le_succ _)) (fun k hk => (hv.lt k hk).1), (h1.alloc o).kept hg (Or.inr hd), h2, Or.inr ?_⟩
  show some g1 ≠ some g2
  rcases ha with e | e
  · rw [← e]; exact hd
  · simp at e
    intro e'
    have := Option.some.inj e'
    omega

set_option maxRecDepth 100000 in
set_option maxHeartbeats 2000000 in
theorem refMac_calls (k s : ByteArray) (w : World) (hk : k.size ≤ 4294967296) (hs : s.size ≤ 4294967000) :
    Calls Tryd.prog 13 #[.string k, .string s] w fun e w' => e = .returned (.string ⟨(macL k.data.toList s.data.toList).toArray⟩) ∧ Below w.heap.size w w' := by
  have hkl : k.data.toList.length = k.size := by rw [Lib.size_eq]
  have hsl : s.data.toList.length = s.size := by rw [Lib.size_eq]
  obtain ⟨kk, hkk⟩ : ∃ kk : ByteArray, ByteArray.mk (keyL k.data.toList).toArray = kk := ⟨_, rfl⟩
  have hkd : kk.data.toList = keyL k.data.toList := by rw [← hkk]
  have hkz : kk.size ≤ 64 := by rw [Lib.size_eq, hkd]; exact keyL_length _
  obtain ⟨A, hA⟩ : ∃ A : ByteArray, ByteArray.mk (keyX kk.data.toList 54).toArray = A := ⟨_, rfl⟩
  obtain ⟨B, hB⟩ : ∃ B : ByteArray, ByteArray.mk (keyX kk.data.toList 92).toArray = B := ⟨_, rfl⟩
  have hkk64 : kk.data.toList.length ≤ 64 := by rw [← Lib.size_eq]; exact hkz
  have hAz : A.size = 64 := by rw [Lib.size_eq, ← hA]; exact keyX_length _ _ hkk64
  have hBz : B.size = 64 := by rw [Lib.size_eq, ← hB]; exact keyX_length _ _ hkk64
  obtain ⟨C, hC⟩ : ∃ C : ByteArray, ByteArray.mk (sumL (A ++ s).data.toList).toArray = C := ⟨_, rfl⟩
  have hCz : C.size = 32 := by rw [Lib.size_eq, ← hC]; rfl
  obtain ⟨R, hR⟩ : ∃ R : ByteArray, ByteArray.mk (macL k.data.toList s.data.toList).toArray = R := ⟨_, rfl⟩
  have hM : ByteArray.mk (sumL (B ++ C).data.toList).toArray = R := by
    rw [cat_listM, ← hB, ← hC, cat_listM, ← hA, ← hR, hkd]
    rfl
  have l1 := fun wx => refSum_calls (B ++ C) wx (by rw [ByteArray.size_append]; omega)
  rw [hM] at l1
  have l2 := fun wx => refSum_calls (A ++ s) wx (by rw [ByteArray.size_append]; omega)
  rw [hC] at l2
  have l0 := fun wx => refSum_calls k wx hk
  have hlong : 64 < k.size → ByteArray.mk (sumL k.data.toList).toArray = kk := fun h => by
    rw [← hkk]; unfold keyL; rw [if_pos (by omega)]
  have hshort : ¬ 64 < k.size → k = kk := fun h => by
    rw [← hkk]; unfold keyL; rw [if_neg (by omega)]
  rw [hR]
  have L2 : Hid _ := l2
  have L1 : Hid _ := l1
  have L0 : Hid _ := l0
  obtain ⟨D, hD⟩ : ∃ D, keyF kk.data.toList = D := ⟨_, rfl⟩
  have hDl : D.length = 64 := by rw [← hD]; exact keyF_length _ hkk64
  have HA : Hid (ByteArray.mk (xorT D 54 64).toArray = A) := by
    rw [← hA, ← hD]; unfold xorT; rw [List.take_of_length_le (by rw [keyF_length _ hkk64]; decide)]; rfl
  have HB : Hid (ByteArray.mk (xorT D 92 64).toArray = B) := by
    rw [← hB, ← hD]; unfold xorT; rw [List.take_of_length_le (by rw [keyF_length _ hkk64]; decide)]; rfl
  have HDk : Hid (∀ i, i < kk.size → D.getD i 0 = kk.data.toList.getD i 0) := fun i hi => by
    rw [← hD]; unfold keyF
    rw [List.getD_eq_getElem?_getD, List.getElem?_append_left (by rw [← Lib.size_eq]; exact hi), ← List.getD_eq_getElem?_getD]
  have HD0 : Hid (∀ i, kk.size ≤ i → D.getD i 0 = 0) := fun i hi => by
    rw [← hD]; unfold keyF
    rw [List.getD_eq_getElem?_getD, List.getElem?_append_right (by rw [← Lib.size_eq]; exact hi), List.getElem?_replicate]
    split <;> rfl
  clear l1 l2 l0 hA hB hC hR hM hkk hkd hD
  go_enter Tryd.func13, Tryd.ntmps13
  by_cases hc : 64 < k.size
  · have LL : Hid _ := hlong hc
    clear hlong hshort
    go_wp2_with fail
    refine (L0.out _).mono ?_
    rintro e w0 ⟨rfl, hb0⟩
    rw [LL.out]
    have B0 := hb0
    clear hb0 LL L0
    go_wp2
    go_loopw [5, 6, 7] (fun u v i wr => ∃ j : Nat, i = .int .i64 (j : Int) ∧ j ≤ 64 ∧ MacRows w D j u v wr) (fun _ _ i _ => match i with | .int _ z => (64 - z).toNat | _ => 0)
    case atStart => exact ⟨0, rfl, by omega, B0, ⟨rfl, Or.inl ⟨rfl, rfl⟩⟩, ⟨rfl, Or.inl ⟨rfl, rfl⟩⟩, Or.inl rfl⟩
    case round =>
      obtain ⟨j, rfl, hj, hMr⟩ := hrel
      have hwr := hMr.below.size
      by_cases hlt : j < 64
      · have HX1 : Hid _ := xorT_snoc D 54 j (by omega)
        have HX2 : Hid _ := xorT_snoc D 92 j (by omega)
        obtain ⟨y, hy⟩ : ∃ y, D.getD j 0 = y := ⟨_, rfl⟩
        rw [hy] at HX1 HX2
        by_cases hjk : j < kk.size
        · have hx1 : bits .xor .u8 (y.toNat : Int) 54 = ((y ^^^ 54).toNat : Int) := u8_xor y 54
          have hx2 : bits .xor .u8 (y.toNat : Int) 92 = ((y ^^^ 92).toNat : Int) := u8_xor y 92
          have hdj := HDk.out j hjk
          have hgj : kk[j]'hjk = y := by
            rw [← hy, hdj, List.getD_eq_getElem?_getD, List.getElem?_eq_getElem (by rw [← Lib.size_eq]; exact hjk)]
            rfl
          clear hdj hy
          go_wp2_with (with_reducible refine wpl_app8 (hMr.ins.alloc _) (by omega) ?hb ⟨wr.heap.size, 0, none⟩ 1 (.int .u8 ((y ^^^ 54).toNat : Int)) ?hu rfl ?hs ?hx ?_)
          case hb => simp; omega
          case hu => first | exact (blk_new _ _ _ _ rfl).cell rfl | (rw [← hx1]; exact (blk_new _ _ _ _ rfl).cell rfl)
          case hs => rfl
          case hx => rfl
          intro g1 cap1 w1 own1 grow1 at1 lt1
          rw [← HX1.out] at own1
          obtain ⟨hv1, d1, B1⟩ := hMr.mid grow1 at1
          have hz1 := B1.size
          clear grow1 at1
          go_wp2_with (with_reducible refine wpl_app8 (hv1.alloc _) (by omega) ?hb ⟨w1.heap.size, 0, none⟩ 1 (.int .u8 ((y ^^^ 92).toNat : Int)) ?hu rfl ?hs ?hx ?_)
          case hb => simp; omega
          case hu => first | exact (blk_new _ _ _ _ rfl).cell rfl | (rw [← hx2]; exact (blk_new _ _ _ _ rfl).cell rfl)
          case hs => rfl
          case hx => rfl
          intro g2 cap2 w2 own2 grow2 at2 lt2
          rw [← HX2.out] at own2
          have hN := MacRows.next B1 d1 own1 hv1 own2 grow2 at2 lt1
          clear grow2 at2
          go_wp2
          refine ⟨⟨j + 1, by norm_cast, by omega, hN⟩, ?_⟩
          show (64 - ((j : Int) + 1)).toNat < (64 - (j : Int)).toNat
          omega
        · have hy0 : y = 0 := by rw [← hy]; exact HD0.out j (by omega)
          clear hy
          subst hy0
          have hx1 : bits .xor .u8 0 54 = (((0 : UInt8) ^^^ 54).toNat : Int) := u8_xor 0 54
          have hx2 : bits .xor .u8 0 92 = (((0 : UInt8) ^^^ 92).toNat : Int) := u8_xor 0 92
          go_wp2_with (with_reducible refine wpl_app8 (hMr.ins.alloc _) (by omega) ?hb ⟨wr.heap.size, 0, none⟩ 1 (.int .u8 (((0 : UInt8) ^^^ 54).toNat : Int)) ?hu rfl ?hs ?hx ?_)
          case hb => simp; omega
          case hu => first | exact (blk_new _ _ _ _ rfl).cell rfl | (rw [← hx1]; exact (blk_new _ _ _ _ rfl).cell rfl)
          case hs => rfl
          case hx => rfl
          intro g1 cap1 w1 own1 grow1 at1 lt1
          rw [← HX1.out] at own1
          obtain ⟨hv1, d1, B1⟩ := hMr.mid grow1 at1
          have hz1 := B1.size
          clear grow1 at1
          go_wp2_with (with_reducible refine wpl_app8 (hv1.alloc _) (by omega) ?hb ⟨w1.heap.size, 0, none⟩ 1 (.int .u8 (((0 : UInt8) ^^^ 92).toNat : Int)) ?hu rfl ?hs ?hx ?_)
          case hb => simp; omega
          case hu => first | exact (blk_new _ _ _ _ rfl).cell rfl | (rw [← hx2]; exact (blk_new _ _ _ _ rfl).cell rfl)
          case hs => rfl
          case hx => rfl
          intro g2 cap2 w2 own2 grow2 at2 lt2
          rw [← HX2.out] at own2
          have hN := MacRows.next B1 d1 own1 hv1 own2 grow2 at2 lt1
          clear grow2 at2
          go_wp2
          refine ⟨⟨j + 1, by norm_cast, by omega, hN⟩, ?_⟩
          show (64 - ((j : Int) + 1)).toNat < (64 - (j : Int)).toNat
          omega
      · have hj64 : j = 64 := by omega
        subst hj64
        have cv1 : ∀ x : BW wr, (convert 33 9 u5).run Tryd.prog x.w = .ok (.string A) x.w := fun x => by
          rw [← HA.out]; exact own_convert (hMr.ins.kept ⟨x.h.os, x.h.tape, x.h.output, x.h.size, fun k hk _ => x.h.block k hk⟩ (row := none) (by cases u5.ownBlock <;> simp))
        have cv2 : ∀ x : BW wr, (convert 33 9 u6).run Tryd.prog x.w = .ok (.string B) x.w := fun x => by
          rw [← HB.out]; exact own_convert (hMr.outs.kept ⟨x.h.os, x.h.tape, x.h.output, x.h.size, fun k hk _ => x.h.block k hk⟩ (row := none) (by cases u6.ownBlock <;> simp))
        have Bw := hMr.below
        clear hMr
        have hne := bw_some wr
        have d1 : ¬ 9223372036854775807 < A.size + s.size := by omega
        have d2 : ¬ 9223372036854775807 < B.size + C.size := by omega
        clear hAz hBz hCz
        go_wp2
        refine wp_region_below (by kernel_rfl) (by kernel_rfl) ?_
        repeat (quiet_step (first
          | (go_at_call_of 10 (Value.string (A ++ s)); exact BW.call _ (L2.out _))
          | (go_at_call_of 10 (Value.string (B ++ C)); exact BW.call _ (L1.out _))))
        refine wpQuiet_nil ?_
        rintro _ ⟨⟨w5, b5⟩, rfl⟩
        have B5 := Bw.trans (b5.mono Bw.size)
        go_wp2
        go_ret
        exact ⟨rfl, B5⟩
  · obtain rfl := hshort hc
    clear hlong hshort L0
    have B0 := Below.refl w.heap.size w
    go_wp2
    go_loopw [5, 6, 7] (fun u v i wr => ∃ j : Nat, i = .int .i64 (j : Int) ∧ j ≤ 64 ∧ MacRows w D j u v wr) (fun _ _ i _ => match i with | .int _ z => (64 - z).toNat | _ => 0)
    case atStart => exact ⟨0, rfl, by omega, B0, ⟨rfl, Or.inl ⟨rfl, rfl⟩⟩, ⟨rfl, Or.inl ⟨rfl, rfl⟩⟩, Or.inl rfl⟩
    case round =>
      obtain ⟨j, rfl, hj, hMr⟩ := hrel
      have hwr := hMr.below.size
      by_cases hlt : j < 64
      · have HX1 : Hid _ := xorT_snoc D 54 j (by omega)
        have HX2 : Hid _ := xorT_snoc D 92 j (by omega)
        obtain ⟨y, hy⟩ : ∃ y, D.getD j 0 = y := ⟨_, rfl⟩
        rw [hy] at HX1 HX2
        by_cases hjk : j < k.size
        · have hx1 : bits .xor .u8 (y.toNat : Int) 54 = ((y ^^^ 54).toNat : Int) := u8_xor y 54
          have hx2 : bits .xor .u8 (y.toNat : Int) 92 = ((y ^^^ 92).toNat : Int) := u8_xor y 92
          have hdj := HDk.out j hjk
          have hgj : k[j]'hjk = y := by
            rw [← hy, hdj, List.getD_eq_getElem?_getD, List.getElem?_eq_getElem (by rw [← Lib.size_eq]; exact hjk)]
            rfl
          clear hdj hy
          go_wp2_with (with_reducible refine wpl_app8 (hMr.ins.alloc _) (by omega) ?hb ⟨wr.heap.size, 0, none⟩ 1 (.int .u8 ((y ^^^ 54).toNat : Int)) ?hu rfl ?hs ?hx ?_)
          case hb => simp; omega
          case hu => first | exact (blk_new _ _ _ _ rfl).cell rfl | (rw [← hx1]; exact (blk_new _ _ _ _ rfl).cell rfl)
          case hs => rfl
          case hx => rfl
          intro g1 cap1 w1 own1 grow1 at1 lt1
          rw [← HX1.out] at own1
          obtain ⟨hv1, d1, B1⟩ := hMr.mid grow1 at1
          have hz1 := B1.size
          clear grow1 at1
          go_wp2_with (with_reducible refine wpl_app8 (hv1.alloc _) (by omega) ?hb ⟨w1.heap.size, 0, none⟩ 1 (.int .u8 ((y ^^^ 92).toNat : Int)) ?hu rfl ?hs ?hx ?_)
          case hb => simp; omega
          case hu => first | exact (blk_new _ _ _ _ rfl).cell rfl | (rw [← hx2]; exact (blk_new _ _ _ _ rfl).cell rfl)
          case hs => rfl
          case hx => rfl
          intro g2 cap2 w2 own2 grow2 at2 lt2
          rw [← HX2.out] at own2
          have hN := MacRows.next B1 d1 own1 hv1 own2 grow2 at2 lt1
          clear grow2 at2
          go_wp2
          refine ⟨⟨j + 1, by norm_cast, by omega, hN⟩, ?_⟩
          show (64 - ((j : Int) + 1)).toNat < (64 - (j : Int)).toNat
          omega
        · have hy0 : y = 0 := by rw [← hy]; exact HD0.out j (by omega)
          clear hy
          subst hy0
          have hx1 : bits .xor .u8 0 54 = (((0 : UInt8) ^^^ 54).toNat : Int) := u8_xor 0 54
          have hx2 : bits .xor .u8 0 92 = (((0 : UInt8) ^^^ 92).toNat : Int) := u8_xor 0 92
          go_wp2_with (with_reducible refine wpl_app8 (hMr.ins.alloc _) (by omega) ?hb ⟨wr.heap.size, 0, none⟩ 1 (.int .u8 (((0 : UInt8) ^^^ 54).toNat : Int)) ?hu rfl ?hs ?hx ?_)
          case hb => simp; omega
          case hu => first | exact (blk_new _ _ _ _ rfl).cell rfl | (rw [← hx1]; exact (blk_new _ _ _ _ rfl).cell rfl)
          case hs => rfl
          case hx => rfl
          intro g1 cap1 w1 own1 grow1 at1 lt1
          rw [← HX1.out] at own1
          obtain ⟨hv1, d1, B1⟩ := hMr.mid grow1 at1
          have hz1 := B1.size
          clear grow1 at1
          go_wp2_with (with_reducible refine wpl_app8 (hv1.alloc _) (by omega) ?hb ⟨w1.heap.size, 0, none⟩ 1 (.int .u8 (((0 : UInt8) ^^^ 92).toNat : Int)) ?hu rfl ?hs ?hx ?_)
          case hb => simp; omega
          case hu => first | exact (blk_new _ _ _ _ rfl).cell rfl | (rw [← hx2]; exact (blk_new _ _ _ _ rfl).cell rfl)
          case hs => rfl
          case hx => rfl
          intro g2 cap2 w2 own2 grow2 at2 lt2
          rw [← HX2.out] at own2
          have hN := MacRows.next B1 d1 own1 hv1 own2 grow2 at2 lt1
          clear grow2 at2
          go_wp2
          refine ⟨⟨j + 1, by norm_cast, by omega, hN⟩, ?_⟩
          show (64 - ((j : Int) + 1)).toNat < (64 - (j : Int)).toNat
          omega
      · have hj64 : j = 64 := by omega
        subst hj64
        have cv1 : ∀ x : BW wr, (convert 33 9 u5).run Tryd.prog x.w = .ok (.string A) x.w := fun x => by
          rw [← HA.out]; exact own_convert (hMr.ins.kept ⟨x.h.os, x.h.tape, x.h.output, x.h.size, fun k hk _ => x.h.block k hk⟩ (row := none) (by cases u5.ownBlock <;> simp))
        have cv2 : ∀ x : BW wr, (convert 33 9 u6).run Tryd.prog x.w = .ok (.string B) x.w := fun x => by
          rw [← HB.out]; exact own_convert (hMr.outs.kept ⟨x.h.os, x.h.tape, x.h.output, x.h.size, fun k hk _ => x.h.block k hk⟩ (row := none) (by cases u6.ownBlock <;> simp))
        have Bw := hMr.below
        clear hMr
        have hne := bw_some wr
        have d1 : ¬ 9223372036854775807 < A.size + s.size := by omega
        have d2 : ¬ 9223372036854775807 < B.size + C.size := by omega
        clear hAz hBz hCz
        go_wp2
        refine wp_region_below (by kernel_rfl) (by kernel_rfl) ?_
        repeat (quiet_step (first
          | (go_at_call_of 10 (Value.string (A ++ s)); exact BW.call _ (L2.out _))
          | (go_at_call_of 10 (Value.string (B ++ C)); exact BW.call _ (L1.out _))))
        refine wpQuiet_nil ?_
        rintro _ ⟨⟨w5, b5⟩, rfl⟩
        have B5 := Bw.trans (b5.mono Bw.size)
        go_wp2
        go_ret
        exact ⟨rfl, B5⟩
end Go.Proofs.YtdkkleikabipgaaDoor
