/- Bytes, opened; what a client makes of them. -/
import Derived.Test.YtocphdikppeijaaGreatLy46
namespace Go.Proofs.YtocphdikppeijaaGreat
open Go.RowKit
open Go.ChangeMaps (setBlock)
set_option linter.unusedSimpArgs false
set_option linter.unusedVariables false

variable {p b x y : Nat} {T : List ByteArray} {S : List (Int × ByteArray)} {q tm tc : Nat} {av : Value} {C : Cs} {w0 : World}
theorem own_weak {w : World} {base base2 n z : Nat} {t : TypeId} {v : Value} {xs : List Value} (h : w.ownsRow base t z v n xs) (hb : base2 ≤ base) : w.ownsRow base2 t z v n xs := by
  refine ⟨h.1, ?_⟩
  rcases h.2 with h2 | ⟨g, cap, cur, h1, h2, h3⟩
  · exact Or.inl h2
  · exact Or.inr ⟨g, cap, cur, h1, Nat.le_trans hb h2, h3⟩
theorem own_rowG {w W : World} {base n z k : Nat} {e t : TypeId} {v : Value} {xs : List Value} {cs cs' : Array Value} (h : w.ownsRow base e z v n xs) (hW : w.setRow k cs' = W) (X : Blk w k cs t) (ht : t ≠ e) : W.ownsRow base e z v n xs := by
  refine ⟨h.1, ?_⟩
  rcases h.2 with hn | ⟨g, cap, cur, rfl, hb, hgg, rest⟩
  · exact Or.inl hn
  · refine Or.inr ⟨g, cap, cur, rfl, hb, ?_, rest⟩
    rw [← hW, setRow_other w k g cs' (fun e => by unfold Blk at X; rw [e, X] at hgg; exact ht (by simpa using (Obj.cells.inj (Option.some.inj hgg)).2.1))]
    exact hgg
def opnd (S : List (Int × ByteArray)) (s : ByteArray) : Int × Bd × Int :=
  match ofSgR s with
  | .error er => (0, zeroBd, er)
  | .ok m =>
    match openR S m with
    | .error er => (m.frm, zeroBd, er)
    | .ok d => (m.frm, d, 0)
theorem ofSgR_ok {s : ByteArray} {m : Sg} (h : ofSgR s = .ok m) : sgOk m = true := by
  unfold ofSgR at h
  split at h
  · cases h
  · split at h
    · cases h
    · split at h
      · cases h
      · split at h
        · rename_i h1
          cases h
          first | exact h1 | simpa using h1
        · cases h
theorem opened_results {w' : World} {c0 c1 c2 c3 c4 c5 c6 c7 u v : Value} {r : Nat} (X : Blk w' r #[c0, c1, c2, c3, c4, c5, c6, c7] 54) {t : Array Value} (h0 : t.getD 4 undef = u) (h1 : t.getD 5 undef = .pointer (some ⟨r, 0, none⟩)) (h2 : t.getD 6 undef = v) :
    (results Tryz.f28 t).run Tryz.prog w' = .ok (.tuple #[u, .agg #[c0, c1, c2, c3, c4, c5, c6, c7], v]) w' := by
  have a0 := X.cell (o := 0) rfl
  have a1 := X.cell (o := 1) rfl
  have a2 := X.cell (o := 2) rfl
  have a3 := X.cell (o := 3) rfl
  have a4 := X.cell (o := 4) rfl
  have a5 := X.cell (o := 5) rfl
  have a6 := X.cell (o := 6) rfl
  have a7 := X.cell (o := 7) rfl
  simp only [Array.getD_eq_getD_getElem?] at h0 h1 h2
  simp [results, Tryz.results28, go_sem, h0, h1, h2, a0, a1, a2, a3, a4, a5, a6, a7]
set_option maxHeartbeats 2000000 in
set_option maxRecDepth 100000 in
theorem opened_calls (s : ByteArray) (w : World) (h : Book w p b x y T S) (hS : S.length < 1000000) (hs : s.size ≤ maxLen) :
    Calls Tryz.prog 28 #[.pointer (some ⟨p, 0, none⟩), .string s] w fun e w' => ∃ a n c, e = .returned (.tuple #[.int .i64 (opnd S s).1, (opnd S s).2.1.val (.slice a n c), .int .i64 (opnd S s).2.2]) ∧ w'.ownsRow w.heap.size 49 3 (.slice a n c) (opnd S s).2.1.list.length (sgCells (opnd S s).2.1.list) ∧ Below w.heap.size w w' := by
  obtain ⟨W1, hW1, X1, B1, Z1⟩ : ∃ W1, w.alloc (.cells #[.int .i64 0, .int .i64 0, .int .i64 0, .int .i64 0, .int .i64 0, .string ⟨#[]⟩, .string ⟨#[]⟩, .slice none 0 0] 54) = W1 ∧ Blk W1 w.heap.size zB8C 54 ∧ Below w.heap.size w W1 ∧ W1.heap.size = w.heap.size + 1 :=
    ⟨_, rfl, blk_new _ _ _ _ rfl, by go_grown, by simp⟩
  have HOS : Hid _ := ofSigned_calls s W1 hs
  have HZ1 : Hid _ := Z1
  clear Z1
  obtain ⟨f, D, E, hO⟩ : ∃ f D E, opnd S s = (f, D, E) := ⟨_, _, _, rfl⟩
  rw [hO]
  unfold opnd at hO
  simp only []
  cases hr : ofSgR s with
  | error er =>
    rw [hr] at hO
    obtain ⟨rfl, rfl, rfl⟩ : (0 : Int) = f ∧ zeroBd = D ∧ er = E := by simpa using hO
    clear hO
    have hne := ofSgR_err hr
    have hd : (er != 0) = true := by simpa using hne
    rw [hr] at HOS
    simp only [sgAns] at HOS
    have HE : Hid _ := hr
    clear hr hne
    obtain ⟨zn, zb, zg, HOZ⟩ : ∃ zn zb zg, Hid (Calls Tryz.prog 59 #[.string s] W1 fun e w' => e = .returned (.tuple #[.agg #[.int .i64 zn, .string zb, .string zg], .int .i64 er]) ∧ Below W1.heap.size W1 w') := ⟨_, _, _, HOS⟩
    clear HOS
    go_enter Tryz.func28, Tryz.ntmps28
    go_wp2_with fail
    refine Calls.mono HOZ.out ?_
    rintro e w2 ⟨rfl, b2⟩
    have X2 := X1.below b2
    obtain ⟨W3, hW3, B3⟩ : ∃ W3, w2.alloc (.cells #[.int .i64 zn, .string zb, .string zg] 49) = W3 ∧ Below w2.heap.size w2 W3 := ⟨_, rfl, by go_grown⟩
    have X3 := X2.below B3
    obtain ⟨W4, hW4, X4, _⟩ := setRow_named X3 zB8C
    go_wp2_with ((with_reducible refine st_row (ty := 54) X3 infoB8C zB8C_same zB8C_one hW4 ?_ ?_ ?_); rfl; rfl)
    refine bodyPost_ret (v := .tuple #[.int .i64 0, .agg zB8C, .int .i64 er]) (opened_results X4 rfl rfl rfl) rfl ?_
    exact ⟨none, 0, 0, rfl, ⟨rfl, Or.inl ⟨rfl, rfl⟩⟩, below_row (chainC (chainC B1 b2) B3) hW4 (Nat.le_refl _)⟩
  | ok m =>
    have hok := ofSgR_ok hr
    rw [hr] at HOS hO
    have HO : Hid ((match openR S m with | .error er => (m.frm, zeroBd, er) | .ok d => (m.frm, d, 0)) = ((f, D, E) : Int × Bd × Int)) := hO
    clear hO
    simp only [sgAns] at HOS
    have hmb : m.body.size ≤ maxLen := by
      unfold sgOk at hok
      simp only [Bool.and_eq_true, decide_eq_true_eq] at hok
      unfold maxLen; omega
    clear hr hok
    have HOP : Hid _ := fun wx (hx : Book wx p b x y T S) => open_calls m wx hx hS hmb
    have HGs : Hid ((Tryz.prog.info? 49).map (·.size) = some (#[.int .i64 m.frm, .string m.body, .string m.sig] : Array Value).size) := infoSg3
    unfold Sg.val at HOS HOP
    go_enter Tryz.func28, Tryz.ntmps28
    go_wp2_with fail
    refine Calls.mono HOS.out ?_
    rintro e w2 ⟨rfl, b2⟩
    have X2 := X1.below b2
    obtain ⟨W3, hW3, M3, B3⟩ : ∃ W3, w2.alloc (.cells #[.int .i64 m.frm, .string m.body, .string m.sig] 49) = W3 ∧ Blk W3 w2.heap.size #[.int .i64 m.frm, .string m.body, .string m.sig] 49 ∧ Below w2.heap.size w2 W3 := ⟨_, rfl, blk_new _ _ _ _ rfl, by go_grown⟩
    have X3 := X2.below B3
    have K3 := ((h.below B1).below b2).below B3
    have BB := chainC (chainC B1 b2) B3
    go_wp2_with ((with_reducible refine rd_row (ty := 49) M3 Tryz.underlying49 rfl HGs.out ?_ ?_); rfl)
    refine Calls.mono (HOP.out _ K3) ?_
    rintro e w4 hro
    obtain ⟨a0, n0, k0, bd, E', rfl, hown, b4, hres⟩ : ∃ a0 n0 k0 bd E, e = .returned (.tuple #[.agg #[.int .i64 bd.kind, .int .i64 bd.view, .int .i64 bd.seq, .int .i64 bd.client, .int .i64 bd.stamp, .string bd.digest, .string bd.text, .slice a0 n0 k0], .int .i64 E]) ∧ w4.ownsRow W3.heap.size 49 3 (.slice a0 n0 k0) bd.list.length (sgCells bd.list) ∧ Below W3.heap.size W3 w4 ∧ Hid ((match openR S m with | .error er => (m.frm, zeroBd, er) | .ok d => (m.frm, d, 0)) = ((m.frm, bd, E) : Int × Bd × Int)) := by
      cases ho : openR S m with
      | error er =>
        rw [ho] at hro
        exact ⟨none, 0, 0, zeroBd, er, hro.1, ⟨rfl, Or.inl ⟨rfl, rfl⟩⟩, hro.2, rfl⟩
      | ok d =>
        rw [ho] at hro
        obtain ⟨lv, h1, h2, h3⟩ := hro
        obtain ⟨pa, ca, rfl⟩ := sgs_of_own' h2
        exact ⟨pa, _, ca, d, 0, h1, h2, h3, rfl⟩
    obtain ⟨rfl, rfl, rfl⟩ : m.frm = f ∧ bd = D ∧ E' = E := by have h1 := HO.out; rw [hres.out] at h1; simpa using h1
    clear hro HO hres
    have HOW : Hid _ := hown
    have B4 := chainC BB b4
    have M4 := M3.below b4
    have X4 := X3.below b4
    obtain ⟨W5, hW5, Y5, B5⟩ : ∃ W5, w4.alloc (.cells #[.int .i64 bd.kind, .int .i64 bd.view, .int .i64 bd.seq, .int .i64 bd.client, .int .i64 bd.stamp, .string bd.digest, .string bd.text, .slice a0 n0 k0] 54) = W5 ∧ Blk W5 w4.heap.size (bd.cells (.slice a0 n0 k0)) 54 ∧ Below w4.heap.size w4 W5 := ⟨_, rfl, blk_new _ _ _ _ rfl, by go_grown⟩
    have M5 := M4.below B5
    have X5 := X4.below B5
    have B5' := chainC B4 B5
    clear hown HOP HOS
    go_wp2
    -- HEAD OF opened
    have HSC : Hid (∀ wx, Blk wx w2.heap.size #[.int .i64 m.frm, .string m.body, .string m.sig] 49 → Blk wx w4.heap.size (bd.cells (.slice a0 n0 k0)) 54 → (fun wx => wx.cell? ⟨w2.heap.size, 0, none⟩ = some (.int .i64 m.frm) ∧ wx.cell? ⟨w4.heap.size, 0, none⟩ = some (.int .i64 bd.kind) ∧ wx.cell? ⟨w4.heap.size, 1, none⟩ = some (.int .i64 bd.view) ∧ wx.cell? ⟨w4.heap.size, 2, none⟩ = some (.int .i64 bd.seq) ∧ wx.cell? ⟨w4.heap.size, 3, none⟩ = some (.int .i64 bd.client) ∧ wx.cell? ⟨w4.heap.size, 4, none⟩ = some (.int .i64 bd.stamp) ∧ wx.cell? ⟨w4.heap.size, 5, none⟩ = some (.string bd.digest) ∧ wx.cell? ⟨w4.heap.size, 6, none⟩ = some (.string bd.text) ∧ wx.cell? ⟨w4.heap.size, 7, none⟩ = some (.slice a0 n0 k0)) wx) := fun wx X Y => ⟨X.cell rfl, Y.cell rfl, Y.cell rfl, Y.cell rfl, Y.cell rfl, Y.cell rfl, Y.cell rfl, Y.cell rfl, Y.cell rfl⟩
    obtain ⟨W6, hW6, X6, _⟩ := setRow_named (w := W5.drew) X5.drew (bd.cells (.slice a0 n0 k0))
    have Y6 : Blk W6 w4.heap.size (bd.cells (.slice a0 n0 k0)) 54 := blk_row (w := W5.drew) Y5.drew hW6 (by have := B4.size; have := HZ1.out; have := b2.size; have := B3.size; have := b4.size; omega)
    have M6 : Blk W6 w2.heap.size #[.int .i64 m.frm, .string m.body, .string m.sig] 49 := blk_row (w := W5.drew) M5.drew hW6 (by have := HZ1.out; have := b2.size; omega)
    have HB6 : Hid (Below w.heap.size w W6) := below_row (B5'.trans (Below.refl _ _).drew) hW6 (Nat.le_refl _)
    have HO6 : Hid (W6.ownsRow w.heap.size 49 3 (.slice a0 n0 k0) bd.list.length (sgCells bd.list)) := own_rowG (own_weak (own_below (own_below HOW.out B5) (Below.refl _ _).drew) BB.size) hW6 X5.drew (by decide)
    refine wp_region_held_drew (S := (fun wx => wx.cell? ⟨w2.heap.size, 0, none⟩ = some (.int .i64 m.frm) ∧ wx.cell? ⟨w4.heap.size, 0, none⟩ = some (.int .i64 bd.kind) ∧ wx.cell? ⟨w4.heap.size, 1, none⟩ = some (.int .i64 bd.view) ∧ wx.cell? ⟨w4.heap.size, 2, none⟩ = some (.int .i64 bd.seq) ∧ wx.cell? ⟨w4.heap.size, 3, none⟩ = some (.int .i64 bd.client) ∧ wx.cell? ⟨w4.heap.size, 4, none⟩ = some (.int .i64 bd.stamp) ∧ wx.cell? ⟨w4.heap.size, 5, none⟩ = some (.string bd.digest) ∧ wx.cell? ⟨w4.heap.size, 6, none⟩ = some (.string bd.text) ∧ wx.cell? ⟨w4.heap.size, 7, none⟩ = some (.slice a0 n0 k0))) (by kernel_rfl) (HSC.out _ M5.drew Y5.drew) (fun hS => ?_)
    refine wpAnyH_take (i := 0) (v := (.pointer (some ⟨w2.heap.size, 0, none⟩))) rfl (by kernel_rfl) (by kernel_rfl) (by kernel_rfl) (fun _ _ _ h => h) (Or.inl ⟨by kernel_rfl, fun w hS => by obtain ⟨s0, s1, s2, s3, s4, s5, s6, s7, s8⟩ := hS; go_simp⟩) hS ?_
    refine wpAnyH_take (i := 1) (v := (.int .i64 m.frm)) rfl (by kernel_rfl) (by kernel_rfl) (by kernel_rfl) (fun _ _ _ h => h) (Or.inl ⟨by kernel_rfl, fun w hS => by obtain ⟨s0, s1, s2, s3, s4, s5, s6, s7, s8⟩ := hS; go_simp⟩) hS ?_
    refine wpAnyH_take (i := 2) (v := (.agg #[.int .i64 bd.kind, .int .i64 bd.view, .int .i64 bd.seq, .int .i64 bd.client, .int .i64 bd.stamp, .string bd.digest, .string bd.text, .slice a0 n0 k0])) rfl (by kernel_rfl) (by kernel_rfl) (by kernel_rfl) (fun _ _ _ h => h) (Or.inl ⟨by kernel_rfl, fun w hS => by obtain ⟨s0, s1, s2, s3, s4, s5, s6, s7, s8⟩ := hS; go_simp⟩) hS ?_
    refine wpAnyH_take (i := 3) (v := (.int .i64 E')) rfl (by kernel_rfl) (by kernel_rfl) (by kernel_rfl) (fun _ _ _ h => h) (Or.inl ⟨by kernel_rfl, fun w hS => by obtain ⟨s0, s1, s2, s3, s4, s5, s6, s7, s8⟩ := hS; go_simp⟩) hS ?_
    refine wpAnyH_take (i := 4) (v := (.int .i64 m.frm)) rfl (by kernel_rfl) (by kernel_rfl) (by kernel_rfl) (fun _ _ _ h => h) (Or.inl ⟨by kernel_rfl, fun w hS => by obtain ⟨s0, s1, s2, s3, s4, s5, s6, s7, s8⟩ := hS; go_simp⟩) hS ?_
    refine wpAnyH_ready (rs := [5]) (by kernel_rfl) (by simp) ?_
    refine readyH_rowC 5 rfl (ty := 54) (x := .tmp 5) (y := .tmp 27) rfl rfl rfl (w.heap.size) (bd.cells (.slice a0 n0 k0)) (by kernel_rfl) (by kernel_rfl) 54 zB8C X5.drew (Bd.info _ _) rfl (Bd.one _ _ _ _) (by rw [hW6]; exact HSC.out _ M6 Y6) (fun hS => ?_)
    rw [hW6]
    rw [hW6] at hS
    refine wpAnyH_take (i := 6) (v := (.int .i64 E')) rfl (by kernel_rfl) (by kernel_rfl) (by kernel_rfl) (fun _ _ _ h => h) (Or.inl ⟨by kernel_rfl, fun w hS => by obtain ⟨s0, s1, s2, s3, s4, s5, s6, s7, s8⟩ := hS; go_simp⟩) hS ?_
    refine wpAnyH_done (by kernel_rfl) ?_ _
    clear hS
    go_wp2
    refine bodyPost_ret (v := .tuple #[.int .i64 m.frm, .agg (bd.cells (.slice a0 n0 k0)), .int .i64 E']) (opened_results X6 rfl rfl rfl) rfl ?_
    exact ⟨a0, n0, k0, rfl, HO6.out, HB6.out⟩
    -- END OF opened
end Go.Proofs.YtocphdikppeijaaGreat
