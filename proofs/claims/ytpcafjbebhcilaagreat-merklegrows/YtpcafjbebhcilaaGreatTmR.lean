/- The document's root: leaf, over, root. -/
import Derived.Test.YtpcafjbebhcilaaGreatTm35
import Derived.Test.YtpcafjbebhcilaaGreatTm05
namespace Go.Proofs.YtpcafjbebhcilaaGreat
open Go.RowKit
set_option linter.unusedSimpArgs false
set_option linter.unusedVariables false
variable {p b x y : Nat} {T : List ByteArray} {S : List (Int × ByteArray)}

theorem lawLaid_calls (t : ByteArray) (w : World) (h : t.size ≤ 1048576) : Calls Tryz.prog 32 #[.string t] w fun e w' => e = .returned (.string ⟨(txtB t).toArray⟩) ∧ Below w.heap.size w w' := by
  have HL : Hid _ := laid_ref t w (by omega)
  go_enter Tryz.func32, Tryz.ntmps32
  go_wp2_with fail
  refine Calls.mono HL.out ?_
  rintro e w1 ⟨rfl, b1⟩
  go_wp2
  go_ret
  exact ⟨rfl, b1⟩
set_option maxHeartbeats 1000000 in
set_option maxRecDepth 100000 in
theorem lawLeaf_calls (m : Rc) (w : World) (h : Book w p b x y T S) (hT : T.length < 1000000) (h1 : m.key.size ≤ 1048576) (h2 : m.dat.size ≤ 1048576) :
    Calls Tryz.prog 55 #[.pointer (some ⟨p, 0, none⟩), m.val] w (Asked x y p b T S (leafT m) w) := by
  have HX : Hid _ := lawLaid_calls
  have HD : Hid _ := fun (wx : World) (hx : Book wx p b x y T S) => bookDigest_calls (leafT m) wx hx hT (Nat.le_trans (leafT_size m h1 h2) (by decide))
  unfold Rc.val
  obtain ⟨W1, hW1, XV, B1, K1⟩ : ∃ W1, w.alloc (.cells #[.string m.key, .string m.dat] 47) = W1 ∧ Blk W1 w.heap.size #[.string m.key, .string m.dat] 47 ∧ Below w.heap.size w W1 ∧ Book W1 p b x y T S :=
    ⟨_, rfl, blk_new _ _ _ _ rfl, by go_grown, h.below (by go_grown)⟩
  have c0 : W1.cell? ⟨w.heap.size, 0, none⟩ = some (.string m.key) := XV.cell rfl
  have c1 : W1.cell? ⟨w.heap.size, 1, none⟩ = some (.string m.dat) := XV.cell rfl
  have zk := arr_sz (txtB m.key)
  have zl := txtB_len m.key
  have zd := arr_sz (txtB m.dat)
  have zm := txtB_len m.dat
  have hcat := leafT_cat m
  have K1d : Book W1.drew p b x y T S := K1.below (Below.refl _ _).drew
  have B1d : Below w.heap.size w W1.drew := B1.drew
  go_enter Tryz.func55, Tryz.ntmps55
  go_wp2_with fail
  go_region_with (first
    | (go_at_call 32; refine Calls.mono (HX.out _ _ (by first | exact h1 | exact h2)) ?_; rintro e w2 ⟨rfl, hb2⟩; have c2 : World.cell? w2 ⟨w.heap.size, 1, none⟩ = some (.string m.dat) := keepCell1 hb2 (by assumption); have K2 : Book w2 p b x y T S := Book.below (by assumption) hb2; have B2 : Below w.heap.size w w2 := chain (by assumption) hb2)
    | (go_at_call 30; refine (HD.out _ (by assumption)).mono ?_; rintro e w3 ⟨rfl, K3, o3⟩))
  all_goals
    go_wp2
    go_ret
    exact ⟨rfl, K3, (Off2.of_below (by assumption)).trans o3⟩
end Go.Proofs.YtpcafjbebhcilaaGreat
