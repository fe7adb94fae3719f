/- The document's Sign and Check. -/
import Derived.Test.YtlloekgdelclcaaRbS
namespace Go.Proofs.Ytlloekgdelclcaa
open Go.RowKit
set_option linter.unusedSimpArgs false
set_option linter.unusedVariables false
variable {p b x y base r : Nat} {tv sv : Value} {T : List ByteArray} {S : List (Int × ByteArray)}

theorem cell_two_new (w : World) (a c : Value) (t : TypeId) : ∀ j u, ([a, c] : List Value)[j]? = some u → (w.alloc (.cells #[a, c] t)).cell? ⟨w.heap.size, j, none⟩ = some u := by
  intro j u hj
  have hB := blk_new w w.heap.size #[a, c] t rfl
  match j, hj with
  | 0, hj => simp at hj; subst hj; exact hB.cell rfl
  | 1, hj => simp at hj; subst hj; exact hB.cell rfl
  | j + 2, hj => simp at hj
theorem atR_in {who : Int} {s : ByteArray} (h : (who, s) ∈ S) : ∃ k : Nat, atR S who s = k ∧ num S (who, s) = k + 1 ∧ k < S.length := by
  obtain ⟨j, h1, _, h3⟩ := seek_some (who, s) S 0 h
  rw [Nat.zero_add] at h1
  exact ⟨j, by unfold atR; rw [h1], num_of_seek h1, h3⟩
theorem atR_out {who : Int} {s : ByteArray} (h : (who, s) ∉ S) : atR S who s = -1 := by unfold atR; rw [seek_none _ S 0 h]

set_option maxHeartbeats 2000000 in
set_option maxRecDepth 100000 in
theorem refSign_calls (who : Int) (s : ByteArray) (w : World) (h : RB w base r tv sv T S) (hS : S.length < 1000000) (hs : s.size ≤ 140737488351232) (hbase : base ≤ w.heap.size) :
    Calls Try.prog 12 #[.pointer (some ⟨r, 0, none⟩), .int .i64 who, .string s] w fun e w' => e = .returned (.string (sgnB (num (note S (who, s)) (who, s)))) ∧ ∃ sv', RB w' base r tv sv' T (note S (who, s)) ∧ Off3 r sv.ownBlock w w' := by
  obtain ⟨i0, hi, hz0, hz1, hz3⟩ := info_parts infoWordR
  have HR : Hid _ := h
  obtain ⟨tp, tc, hsv⟩ := own_len3 h.signed
  subst hsv
  have c0 : w.cell? ⟨r, 1, none⟩ = some (.slice tp S.length tc) := h.blk.cell rfl
  have hrl := h.blk.lt
  have HAt : Hid _ := fun wx hw => refAt_calls (base := base) (r := r) (tv := tv) (sv := .slice tp S.length tc) (T := T) (S := S) who s wx hw hS
  clear h
  by_cases hin : (who, s) ∈ S
  · obtain ⟨k, hk1, hk2, hk3⟩ := atR_in hin
    have hnote : note S (who, s) = S := by unfold note; rw [if_pos hin]
    rw [hnote, hk2]
    rw [hk1] at HAt
    have H8 : Hid _ := fun wx => refEight_calls (k + 1) wx (by omega)
    have hcat := sgnB_cat (k + 1)
    clear hk1 hk2 hin hnote
    have hd : decide ((k : Int) < 0) = false := by simp only [decide_eq_false_iff_not]; omega
    go_enter Try.func12, Try.ntmps12
    go_wp2_with fail
    refine (HAt.out _ HR.out).mono ?_
    rintro e w1 ⟨rfl, rfl⟩
    go_wp2_with fail
    refine (H8.out _).mono ?_
    rintro e w2 ⟨rfl, b2⟩
    go_wp2
    go_ret
    exact ⟨rfl, _, RB.below HR.out b2, Off3.of_below b2⟩
  · have hnote : note S (who, s) = S ++ [(who, s)] := by unfold note; rw [if_neg hin]
    have hnum : num (note S (who, s)) (who, s) = S.length + 1 := num_new hin
    rw [hnum]
    rw [atR_out hin] at HAt
    have H8 : Hid _ := fun wx => refEight_calls (S.length + 1) wx (by omega)
    have hcat := sgnB_cat (S.length + 1)
    have HNt : Hid _ := hnote
    clear hin hnum hnote
    go_enter Try.func12, Try.ntmps12
    go_wp2_with fail
    refine (HAt.out _ HR.out).mono ?_
    rintro e w1 ⟨rfl, rfl⟩
    go_wp2_with (at_builtin; refine wpList_append_own _ rfl (.tmp 23) (.tmp 27) 27 rfl base 68 i0 (.agg #[.int .i64 0, .string ⟨#[]⟩]) 2 24 Try.underlying27 hi hz0 hz1 hz3 rfl (by decide) _ _ _ rfl (World.ownsRow.alloc (RB.signed HR.out) _) ⟨w1.heap.size, 0, none⟩ 1 1 [.int .i64 who, .string s] rfl rfl ?c1 ?c2 ?c3 ?c4 ?c5 ?_)
    case c1 =>
      intro j u hj
      have := cell_two_new w1 (.int .i64 who) (.string s) 68 j u hj
      rw [Addr.add_lit, Nat.zero_add]; exact this
    case c2 => intro u hu; simp at hu; rcases hu with rfl | rfl <;> rfl
    case c3 => unfold maxLen; omega
    case c4 => omega
    case c5 => simp; omega
    intro v' w4 ho' hg' _
    have hB0 : Blk w1 r #[tv, .slice tp S.length tc] 29 := RB.blk HR.out
    have hne : (Value.slice tp S.length tc).ownBlock ≠ some r := row_not (RB.signed HR.out) hB0 (by decide)
    have X4 : Blk w4 r #[tv, .slice tp S.length tc] 29 := (hg'.block r (by simp; omega) (fun e => hne e.symm)).trans (hB0.alloc _)
    have hlen' : ∃ p' c', v' = .slice p' (S.length + 1) c' := own_len3 ho'
    have hne' : v'.ownBlock ≠ some r := row_not ho' X4 (by decide)
    obtain ⟨p', c', rfl⟩ := hlen'
    have d0 : w4.cell? ⟨r, 1, none⟩ = some (.slice tp S.length tc) := X4.cell rfl
    have f0 := X4.frozen (o := 1)
    have htx : (w4.setCell ⟨r, 1, none⟩ (.slice p' (S.length + 1) c')).ownsRow base 9 1 tv T.length (txC T) := by
      have h1 : w4.ownsRow base 9 1 tv T.length (txC T) := World.ownsRow.kept (World.ownsRow.alloc (RB.texts HR.out) _) hg' (own_two3 (RB.texts HR.out) (RB.signed HR.out) (by decide))
      exact own_set3 h1 (row_not h1 X4 (by decide))
    have HRB : Hid _ := (show RB (w4.setCell ⟨r, 1, none⟩ (.slice p' (S.length + 1) c')) base r tv (.slice p' (S.length + 1) c') T (S ++ [(who, s)]) from
      ⟨X4.set 1 _, RB.rb HR.out, htx, by rw [List.length_append, wdC_snoc]; exact own_set3 ho' hne'⟩)
    have HO3 : Hid _ := (show Off3 r (Value.slice tp S.length tc).ownBlock w1 (w4.setCell ⟨r, 1, none⟩ (.slice p' (S.length + 1) c')) from
      ⟨hg'.os, hg'.tape, hg'.output, by have := hg'.size; simp [World.setCell] at this ⊢; omega, fun k hk h1 h2 => by
        rw [heap_setCell_other w4 ⟨r, 1, none⟩ k _ h1, hg'.block k (by simp; omega) (fun e => h2 e.symm)]
        exact (Below.block ((Below.refl w1.heap.size w1).alloc (Nat.le_refl _) _) k hk)⟩)
    clear htx ho' hg' hne hne' hB0 X4
    go_wp2_with fail
    refine (H8.out _).mono ?_
    rintro e w5 ⟨rfl, b5⟩
    go_wp2
    go_ret
    exact ⟨rfl, _, by rw [HNt.out]; exact RB.below HRB.out b5, Off3.trans HO3.out b5⟩

set_option maxHeartbeats 2000000 in
theorem refCheck_calls (who : Int) (s sig : ByteArray) (w : World) (h : RB w base r tv sv T S) (hS : S.length < 1000000) :
    Calls Try.prog 16 #[.pointer (some ⟨r, 0, none⟩), .int .i64 who, .string s, .string sig] w fun e w' => e = .returned (.bool (chk S who s sig)) ∧ Below w.heap.size w w' := by
  have HAt : Hid _ := fun wx hw => refAt_calls (base := base) (r := r) (tv := tv) (sv := sv) (T := T) (S := S) who s wx hw hS
  have HR : Hid _ := h
  clear h
  by_cases hin : (who, s) ∈ S
  · obtain ⟨k, hk1, hk2, hk3⟩ := atR_in hin
    have hck : chk S who s sig = decide (sig = sgnB (k + 1)) := by unfold chk; rw [(isIn_iff _ _).2 hin, hk2]; simp
    rw [hck]
    rw [hk1] at HAt
    have H8 : Hid _ := fun wx => refEight_calls (k + 1) wx (by omega)
    have hcat := sgnB_cat (k + 1)
    have hse := eqS sig (sgnB (k + 1))
    clear hk1 hk2 hin hck
    have hd : decide (0 ≤ (k : Int)) = true := by simp only [decide_eq_true_eq]; omega
    go_enter Try.func16, Try.ntmps16
    go_wp2_with fail
    refine (HAt.out _ HR.out).mono ?_
    rintro e w1 ⟨rfl, rfl⟩
    go_wp2_with fail
    refine (H8.out _).mono ?_
    rintro e w2 ⟨rfl, b2⟩
    go_wp2
    go_ret
    exact ⟨rfl, b2⟩
  · have hck : chk S who s sig = false := by unfold chk; rw [(isIn_false _ _).2 hin]; rfl
    rw [hck]
    rw [atR_out hin] at HAt
    clear hin hck
    go_enter Try.func16, Try.ntmps16
    go_wp2_with fail
    refine (HAt.out _ HR.out).mono ?_
    rintro e w1 ⟨rfl, rfl⟩
    go_wp2
    go_ret
    exact ⟨rfl, Below.refl _ _⟩
end Go.Proofs.Ytlloekgdelclcaa
