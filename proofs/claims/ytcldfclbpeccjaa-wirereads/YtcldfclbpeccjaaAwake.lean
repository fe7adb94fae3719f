/- awake: the chapter's examples hold. -/
import Derived.Test.YtcldfclbpeccjaaOfF
namespace Go.Proofs.Ytcldfclbpeccjaa
open Go.RowKit
set_option linter.unusedVariables false
set_option linter.unusedSimpArgs false

def exBd : Bd := ⟨3, 0, 300, 0, 0, ⟨#[100]⟩, ⟨#[]⟩, []⟩
def exBytes : ByteArray := ⟨#[3, 0, 172, 2, 0, 0, 1, 100, 0, 0]⟩
def exMore : ByteArray := ⟨#[3, 0, 172, 2, 0, 0, 1, 100, 0, 0, 120]⟩

theorem exRight : right exBd = 0 := by decide +kernel
theorem exB : bdB exBd = [3, 0, 172, 2, 0, 0, 1, 100, 0, 0] := by decide +kernel
theorem exBytesR : bytesR exBd = #[.string exBytes, .int .i64 0] := by
  unfold bytesR
  rw [if_pos exRight, exB]
  rfl
theorem exRd : rdBd exBytes 0 = .ok (exBd, 10) := by kernel_rfl
theorem exOf : ofR exBytes = .ok exBd := by
  unfold ofR
  rw [exRd, if_neg (by decide +kernel)]
  simp only
  rw [if_neg (by decide +kernel), if_pos exRight]
theorem exRdMore : rdBd exMore 0 = .ok (exBd, 10) := by kernel_rfl
theorem exOfMore : ofR exMore = .error 12 := by
  unfold ofR
  rw [exRdMore, if_neg (by decide +kernel)]
  simp only
  rw [if_pos (by decide +kernel)]

set_option maxHeartbeats 1000000 in
theorem awake_calls (w : World) : Calls Try.prog 9 #[] w fun e w' => e = .returned (.bool true) ∧ Below w.heap.size w w' := by
  have hb := bytes_calls exBd (.slice none 0 0) w (by decide +kernel) (by decide +kernel) (by decide +kernel) (Or.inl ⟨⟨_, _, rfl⟩, rfl⟩)
  rw [exBytesR] at hb
  have ho := fun wx => of_calls exBytes wx (by decide +kernel)
  rw [exOf] at ho
  have hm := fun wx => of_calls exMore wx (by decide +kernel)
  rw [exOfMore] at hm
  have HO : Hid _ := ho
  have HM : Hid _ := hm
  clear ho hm
  have hcat : exBytes ++ (⟨#[120]⟩ : ByteArray) = exMore := by decide +kernel
  unfold exBd Bd.val at hb
  simp only at hb
  go_enter Try.func9, Try.ntmps9
  go_wp2_with fail
  refine hb.mono ?_
  rintro e w1 ⟨rfl, hb1⟩
  go_wp2_with fail
  refine (HO.out _).mono ?_
  rintro e w2 ⟨lv, rfl, hown, hb2⟩
  obtain ⟨pp, cp, rfl⟩ := sgs_of_own' hown
  unfold Bd.val
  go_wp2_with fail
  refine (HM.out _).mono ?_
  rintro e w3 ⟨rfl, hb3⟩
  have X := (blk_new w2 w2.heap.size #[.int .i64 exBd.kind, .int .i64 exBd.view, .int .i64 exBd.seq, .int .i64 exBd.client, .int .i64 exBd.stamp, .string exBd.digest, .string exBd.text, .slice pp exBd.list.length cp] 24 rfl).below hb3
  have d2 := X.cell (o := 2) (v := .int .i64 300) rfl
  have d5 := X.cell (o := 5) (v := .string ⟨#[100]⟩) rfl
  have z2 := hb2.size
  have z1 := hb1.size
  have z3 := hb3.size
  simp at z3
  have hlt : w2.heap.size < w3.heap.size := by omega
  have hne : ¬ w2.heap.size = w3.heap.size := by omega
  clear X
  simp only [zeroBd, Bd.val, exBytes]
  go_wp2
  go_ret
  refine ⟨rfl, ?_⟩
  exact ((((hb1.trans (hb2.mono z1)).alloc (by omega) _).trans (hb3.mono (by simp; omega))).alloc (by omega) _)
end Go.Proofs.Ytcldfclbpeccjaa
