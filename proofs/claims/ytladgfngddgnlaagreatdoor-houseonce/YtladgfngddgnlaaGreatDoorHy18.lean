/- The library's stable sort at orders: the whole. -/
import Derived.Test.YtladgfngddgnlaaGreatDoorHy17
import Derived.Test.YtladgfngddgnlaaGreatDoorHy01
import Derived.Deep.OwnRows
import Derived.Deep.AppendLies
namespace Go.Proofs.YtladgfngddgnlaaGreatDoor.Cal
open Go.Shelf Go.RowKit Go.Lib Go.Sort
set_option linter.unusedSimpArgs false
set_option linter.unusedVariables false

theorem insS_len {α : Type} {lt : α → α → Bool} (x : α) : ∀ s : List α, (insS lt x s).length = s.length + 1
  | [] => rfl
  | y :: t => by rw [insS]; split <;> simp [insS_len x t]
theorem stab_len {α : Type} {lt : α → α → Bool} (l : List α) : (stab lt l).length = l.length := by
  have : ∀ (l s : List α), (l.foldl (fun acc x => insS lt x acc) s).length = s.length + l.length := by
    intro l
    induction l with
    | nil => intro s; simp
    | cons x l ih => intro s; rw [List.foldl_cons, ih, insS_len]; simp; omega
  simpa [stab] using this l []

theorem sym_all (k : Nat) (aE : ∀ w, (isAgg 92).run Tryz.prog w = .ok true w) (zE : ∀ w, (Go.sizeOf 92).run Tryz.prog w = .ok k w) (cf : Od → Od → Int) (hO : SWO (ltOf cf)) (g : Nat) (cb : Array Value) (blk off cap : Nat) (d0 : Array Od) (w0 : World) (eg : ∀ args w, (callFunc g args).run Tryz.prog w = .ok (.enter g args) w) (hcmp : CmpLays Tryz.prog g cb oC k cf blk off d0.size w0) (R : RowK oC k w0 blk off d0) :
    ∀ (N a m b : Nat) (d : Array Od) (w : World) (A U V C : List Od), U.length + V.length ≤ N → d0.size = d.size → SWK oC k w0 blk off d w → d.toList = A ++ U ++ V ++ C → a = A.length → m = A.length + U.length → b = A.length + U.length + V.length → 0 < U.length → 0 < V.length → Srt (ltOf cf) U → Srt (ltOf cf) V → d.size < 1000000 →
    Calls Tryz.prog 183 #[.slice (some ⟨blk, off, none⟩) d.size cap, .int .i64 a, .int .i64 m, .int .i64 b, .func (.func g) #[] cb] w fun e w' => e = .returned (.tuple #[]) ∧ ∃ (d' : Array Od) (r : List Od), d'.toList = A ++ r ++ C ∧ Srt (ltOf cf) r ∧ Stb (ltOf cf) (U ++ V) r ∧ r.length = U.length + V.length ∧ SWK oC k w0 blk off d' w' := by
  intro N
  induction N with
  | zero => intro a m b d w A U V C h1 h2 h3 h4 h5 h6 h7 h8; omega
  | succ N ih =>
    intro a m b d w A U V C h1 hs S hd ha hm hb hu hv sU sV hsz
    by_cases c1 : U.length = 1
    · obtain ⟨x, hx⟩ := List.length_eq_one_iff.1 c1
      exact sym_one k aE zE cf hO g cb blk off cap a m b d0 d w0 w eg hcmp R hs S A U V C hd ha hm hb sU sV hsz x hx
    · by_cases c2 : V.length = 1
      · obtain ⟨x, hx⟩ := List.length_eq_one_iff.1 c2
        exact sym_last k aE zE cf hO g cb blk off cap a m b d0 d w0 w eg hcmp R hs S A U V C hd ha hm hb sU sV hsz x hx (by omega)
      · have IH : ∀ (a m b z : Int) (d : Array Od) (w : World) (A U' V' C : List Od), U'.length + V'.length < U.length + V.length → z = d.size → d0.size = d.size → SWK oC k w0 blk off d w → d.toList = A ++ U' ++ V' ++ C → a = A.length → m = A.length + U'.length → b = A.length + U'.length + V'.length → 0 < U'.length → 0 < V'.length → Srt (ltOf cf) U' → Srt (ltOf cf) V' → d.size < 1000000 → Calls Tryz.prog 183 #[.slice (some ⟨blk, off, none⟩) z.toNat cap, .int .i64 a, .int .i64 m, .int .i64 b, .func (.func g) #[] cb] w fun e w' => e = .returned (.tuple #[]) ∧ ∃ (d' : Array Od) (r : List Od), d'.toList = A ++ r ++ C ∧ Srt (ltOf cf) r ∧ Stb (ltOf cf) (U' ++ V') r ∧ r.length = U'.length + V'.length ∧ SWK oC k w0 blk off d' w' := by
          intro a m b z d w A U' V' C g1 g2 g3 g4 g5 g6 g7 g8 g9 g10 g11 g12 g13
          have := ih A.length (A.length + U'.length) (A.length + U'.length + V'.length) d w A U' V' C (by omega) g3 g4 g5 rfl rfl rfl g9 g10 g11 g12 g13
          rw [g2, g6, g7, g8, Int.toNat_natCast]
          simpa using this
        by_cases c3 : (a + b) / 2 < m
        · exact sym_hi k aE zE cf hO g cb blk off cap a m b d0 d w0 w eg hcmp R hs S A U V C hd ha hm hb sU sV hsz (by omega) (by omega) (U.length + V.length) ((a + b) / 2) rfl (by omega) (by omega) c3 IH
        · exact sym_lo k aE zE cf hO g cb blk off cap a m b d0 d w0 w eg hcmp R hs S A U V C hd ha hm hb sU sV hsz (by omega) (by omega) (U.length + V.length) ((a + b) / 2) rfl (by omega) (by omega) (by omega) IH
theorem sym_int (k : Nat) (aE : ∀ w, (isAgg 92).run Tryz.prog w = .ok true w) (zE : ∀ w, (Go.sizeOf 92).run Tryz.prog w = .ok k w) (cf : Od → Od → Int) (hO : SWO (ltOf cf)) (g : Nat) (cb : Array Value) (blk off cap : Nat) (d0 : Array Od) (w0 : World) (eg : ∀ args w, (callFunc g args).run Tryz.prog w = .ok (.enter g args) w) (hcmp : CmpLays Tryz.prog g cb oC k cf blk off d0.size w0) (R : RowK oC k w0 blk off d0) (a m b z : Int) (d : Array Od) (w : World) (A U V C : List Od) (hz : z = d.size) (hs : d0.size = d.size) (S : SWK oC k w0 blk off d w) (hd : d.toList = A ++ U ++ V ++ C)
    (ha : a = A.length) (hm : m = A.length + U.length) (hb : b = A.length + U.length + V.length) (hu : 0 < U.length) (hv : 0 < V.length) (sU : Srt (ltOf cf) U) (sV : Srt (ltOf cf) V) (hsz : d.size < 1000000) :
    Calls Tryz.prog 183 #[.slice (some ⟨blk, off, none⟩) z.toNat cap, .int .i64 a, .int .i64 m, .int .i64 b, .func (.func g) #[] cb] w fun e w' => e = .returned (.tuple #[]) ∧ ∃ (d' : Array Od) (r : List Od), d'.toList = A ++ r ++ C ∧ Srt (ltOf cf) r ∧ Stb (ltOf cf) (U ++ V) r ∧ r.length = U.length + V.length ∧ SWK oC k w0 blk off d' w' := by
  have := sym_all k aE zE cf hO g cb blk off cap d0 w0 eg hcmp R _ A.length (A.length + U.length) (A.length + U.length + V.length) d w A U V C (Nat.le_refl _) hs S hd rfl rfl rfl hu hv sU sV hsz
  rw [hz, ha, hm, hb, Int.toNat_natCast]
  simpa using this
theorem ins_int (k : Nat) (aE : ∀ w, (isAgg 92).run Tryz.prog w = .ok true w) (zE : ∀ w, (Go.sizeOf 92).run Tryz.prog w = .ok k w) (cf : Od → Od → Int) (hO : SWO (ltOf cf)) (g : Nat) (cb : Array Value) (blk off cap : Nat) (a b z : Int) (d0 d : Array Od) (w0 w : World) (eg : ∀ args w, (callFunc g args).run Tryz.prog w = .ok (.enter g args) w) (hcmp : CmpLays Tryz.prog g cb oC k cf blk off d0.size w0) (R : RowK oC k w0 blk off d0) (hs : d0.size = d.size) (S : SWK oC k w0 blk off d w) (A X C : List Od)
    (hz : z = d.size) (hd : d.toList = A ++ X ++ C) (ha : a = A.length) (hb : b = A.length + X.length) (hsz : d.size < 1000000) :
    Calls Tryz.prog 182 #[.slice (some ⟨blk, off, none⟩) z.toNat cap, .int .i64 a, .int .i64 b, .func (.func g) #[] cb] w fun e w' => e = .returned (.tuple #[]) ∧ ∃ d' : Array Od, d'.toList = A ++ stab (ltOf cf) X ++ C ∧ SWK oC k w0 blk off d' w' := by
  have := ins_calls k aE zE cf hO g cb blk off cap A.length (A.length + X.length) d0 d w0 w eg hcmp R hs S A X C hd rfl rfl hsz
  rw [hz, ha, hb, Int.toNat_natCast]
  simpa using this

/-- Lists cut into sorted runs of so many. -/
def Runs (lt : Od → Od → Bool) (n : Nat) (L : List (List Od)) : Prop := ∀ c ∈ L, c.length = n ∧ Srt lt c
theorem Runs.len {lt : Od → Od → Bool} {n : Nat} : ∀ {L : List (List Od)}, Runs lt n L → L.flatten.length = L.length * n
  | [], _ => by simp
  | c :: L, h => by
    have h1 := (h c (List.mem_cons_self ..)).1
    have h2 := Runs.len (L := L) (fun d hd => h d (List.mem_cons_of_mem _ hd))
    rw [List.flatten_cons, List.length_append, h1, h2, List.length_cons, Nat.add_mul]; omega
theorem Runs.nil {lt : Od → Od → Bool} {n : Nat} : Runs lt n [] := fun c hc => by cases hc
theorem Runs.snoc {lt : Od → Od → Bool} {n : Nat} {L : List (List Od)} {c : List Od} (h : Runs lt n L) (h1 : c.length = n) (h2 : Srt lt c) : Runs lt n (L ++ [c]) := by
  intro d hd
  rcases List.mem_append.1 hd with e | e
  · exact h d e
  · rw [List.mem_singleton.1 e]; exact ⟨h1, h2⟩

set_option maxHeartbeats 8000000 in
set_option maxRecDepth 1000000 in
theorem stable_calls (k : Nat) (aE : ∀ w, (isAgg 92).run Tryz.prog w = .ok true w) (zE : ∀ w, (Go.sizeOf 92).run Tryz.prog w = .ok k w) (cf : Od → Od → Int) (hO : SWO (ltOf cf)) (g : Nat) (cb : Array Value) (blk off cap : Nat) (d : Array Od) (w : World) (eg : ∀ args w, (callFunc g args).run Tryz.prog w = .ok (.enter g args) w) (hcmp : CmpLays Tryz.prog g cb oC k cf blk off d.size w) (R : RowK oC k w blk off d) (hsz : d.size < 1000000) :
    Calls Tryz.prog 181 #[.slice (some ⟨blk, off, none⟩) d.size cap, .int .i64 d.size, .func (.func g) #[] cb] w fun e w' => e = .returned (.tuple #[]) ∧ ∃ d' : Array Od, d'.toList = stab (ltOf cf) d.toList ∧ SWK oC k w blk off d' w' := by
  obtain ⟨w0, hw0⟩ : ∃ w0, w0 = w := ⟨_, rfl⟩
  rw [← hw0] at hcmp R
  have S0 : Aside (SWK oC k w0 blk off d w) := by rw [← hw0]; exact SWK.start R.hH
  have HI : Hid _ := fun (a b z : Int) (d' : Array Od) (w' : World) (hs : d.size = d'.size) (S : SWK oC k w0 blk off d' w') (A X C : List Od) (hz : z = d'.size) (hd : d'.toList = A ++ X ++ C) (ha : a = A.length) (hb : b = A.length + X.length) (hsz : d'.size < 1000000) => ins_int k aE zE cf hO g cb blk off cap a b z d d' w0 w' eg hcmp R hs S A X C hz hd ha hb hsz
  have HM : Hid _ := fun (a m b z : Int) (d' : Array Od) (w' : World) (A U V C : List Od) => sym_int k aE zE cf hO g cb blk off cap d w0 eg hcmp R a m b z d' w' A U V C
  have HH : Hid _ := hO
  have HW : Hid _ := hw0
  obtain ⟨n, hn⟩ : ∃ n, d.size = n := ⟨_, rfl⟩
  have HN : Hid _ := hn
  rw [hn] at hsz ⊢
  clear hn hw0 hcmp hO R eg aE zE
  go_enter Tryz.func181, Tryz.ntmps181
  go_wp2
  go_loopg [7, 8] n (fun g1 va vb wr => ∃ (a b : Nat) (dk : Array Od), va = .int .i64 a ∧ vb = .int .i64 b ∧ a + 20 ≤ b ∧ b ≤ a + 20 ∧ a ≤ n ∧ n - a ≤ g1 ∧ Hid (∃ L X, Runs (ltOf cf) 20 L ∧ L.flatten.length = a ∧ dk.toList = L.flatten ++ X ∧ Stb (ltOf cf) d.toList dk.toList ∧ dk.size = n) ∧ Aside (SWK oC k w0 blk off dk wr))
  case atStart => exact ⟨0, 20, d, rfl, rfl, by omega, by omega, by omega, by omega, ⟨[], d.toList, Runs.nil, rfl, by simp, Stb.refl _, HN.out⟩, S0⟩
  case round =>
    clear S0
    obtain ⟨a, b, dk, rfl, rfl, hb1, hb2, han, hg1, HL, S1⟩ := hrel
    by_cases hbn : b ≤ n
    · have hbz : (b : Int) ≤ (n : Int) := by omega
      obtain ⟨L, X, e1, e2, e3, e4, e5⟩ := HL.out
      obtain ⟨c, X3, f1, f2⟩ : ∃ c X3, X = c ++ X3 ∧ c.length = 20 := cut2 (by have := size_of e3; simp [e2] at this; omega)
      have HC : Hid _ := HI.out (a : Int) (b : Int) (n : Int) dk wr (by have := HN.out; omega) S1.out L.flatten c X3 (by omega) (by rw [e3, f1]; simp) (by omega) (by omega) (by omega)
      rw [Int.toNat_natCast] at HC
      have HE : Hid (Runs (ltOf cf) 20 L ∧ L.flatten.length = a ∧ dk.toList = L.flatten ++ c ++ X3 ∧ Stb (ltOf cf) d.toList dk.toList ∧ dk.size = n ∧ c.length = 20) := ⟨e1, e2, by rw [e3, f1]; simp, e4, e5, f2⟩
      clear e1 e2 e3 e4 e5 f1 f2 HL S1
      go_wp2_with fail
      refine Calls.mono HC.out ?_
      rintro e w2 ⟨rfl, d2, hd2, S2⟩
      have HD2 : Hid _ := hd2
      have S2' : Aside _ := S2
      clear hd2 S2
      go_wp2
      go_roundg (n - b)
      case measure => omega
      case rel =>
        obtain ⟨e1, e2, e3, e4, e5, e6⟩ := HE.out
        refine ⟨b, b + 20, d2, rfl, by go_num, by omega, by omega, hbn, Nat.le_refl _, ⟨L ++ [stab (ltOf cf) c], X3, e1.snoc (by rw [stab_len]; exact e6) (stab_srt HH.out c), by simp only [List.flatten_append, List.length_append, e2, List.flatten_cons, List.flatten_nil, List.append_nil, stab_len, e6]; omega, by rw [HD2.out]; simp, ?_, ?_⟩, S2'⟩
        · rw [HD2.out]
          exact e4.trans (by rw [e3]; exact Stb.mid (stab_stb HH.out c))
        · have h1 := size_of HD2.out; have h2 := size_of e3; simp only [List.length_append, stab_len] at h1 h2; omega
    · have hbz : ¬ (b : Int) ≤ (n : Int) := by omega
      have hbz2 : (n : Int) < (b : Int) := by omega
      obtain ⟨L, X, e1, e2, e3, e4, e5⟩ := HL.out
      have HC : Hid _ := HI.out (a : Int) (n : Int) (n : Int) dk wr (by have := HN.out; omega) S1.out L.flatten X [] (by omega) (by rw [e3]; simp) (by omega) (by have := size_of e3; simp [e2] at this; omega) (by omega)
      rw [Int.toNat_natCast] at HC
      have HE : Hid (Runs (ltOf cf) 20 L ∧ L.flatten.length = a ∧ dk.toList = L.flatten ++ X ++ [] ∧ Stb (ltOf cf) d.toList dk.toList ∧ dk.size = n ∧ X.length + a = n) := ⟨e1, e2, by rw [e3]; simp, e4, e5, by have := size_of e3; simp [e2] at this; omega⟩
      clear e1 e2 e3 e4 e5 HL S1
      go_wp2_with fail
      refine Calls.mono HC.out ?_
      rintro e w2 ⟨rfl, d2, hd2, S2⟩
      have HK : Hid (∃ L last, Runs (ltOf cf) 20 L ∧ Srt (ltOf cf) last ∧ last.length < 20 ∧ d2.toList = L.flatten ++ last ∧ Stb (ltOf cf) d.toList d2.toList ∧ d2.size = n) := by
        obtain ⟨e1, e2, e3, e4, e5, e6⟩ := HE.out
        refine ⟨L, stab (ltOf cf) X, e1, stab_srt HH.out X, by rw [stab_len]; omega, by rw [hd2]; simp, ?_, ?_⟩
        · rw [hd2]
          exact e4.trans (by rw [e3]; exact Stb.mid (stab_stb HH.out X))
        · have h1 := size_of hd2; have h2 := size_of e3; simp only [List.length_append, stab_len] at h1 h2; omega
      have S2' : Aside _ := S2
      clear hd2 S2 HE HC
      go_wp2
      go_loopg [6] n (fun g2 vs wr2 => ∃ (bs : Nat) (dk : Array Od), vs = .int .i64 bs ∧ 20 ≤ bs ∧ bs ≤ 2000000 ∧ n - bs ≤ g2 ∧ Hid (∃ L last, Runs (ltOf cf) bs L ∧ Srt (ltOf cf) last ∧ last.length < bs ∧ dk.toList = L.flatten ++ last ∧ Stb (ltOf cf) d.toList dk.toList ∧ dk.size = n) ∧ Aside (SWK oC k w0 blk off dk wr2))
      case atStart => exact ⟨20, d2, rfl, by omega, by omega, by omega, HK.out, S2'⟩
      case round =>
        clear S2' HK
        obtain ⟨bs, dk2, rfl, hbs, hbs2, hg2, HK, S3⟩ := hrel
        obtain ⟨w3, hw3⟩ : ∃ w3, w3 = wr := ⟨_, rfl⟩
        rw [← hw3] at S3
        rw [← hw3]
        clear hw3
        by_cases hlt : bs < n
        · have hltz : (bs : Int) < (n : Int) := by omega
          obtain ⟨L0, last, k1, k2, k3, k4, k5, k6⟩ := HK.out
          have HT : Hid (Srt (ltOf cf) last ∧ last.length < bs) := ⟨k2, k3⟩
          have HF : Hid (Runs (ltOf cf) bs L0 ∧ dk2.toList = L0.flatten ++ last ∧ Stb (ltOf cf) d.toList dk2.toList ∧ dk2.size = n) := ⟨k1, k4, k5, k6⟩
          clear k1 k2 k3 k4 k5 k6 HK
          go_wp2
          go_loopg [7, 8] n (fun g3 va vb wr3 => ∃ (a b : Nat) (dk : Array Od), va = .int .i64 a ∧ vb = .int .i64 b ∧ a + 2 * bs ≤ b ∧ b ≤ a + 2 * bs ∧ a ≤ n ∧ n - a ≤ g3 ∧ Hid (∃ D L, Runs (ltOf cf) (2 * bs) D ∧ Runs (ltOf cf) bs L ∧ D.flatten.length = a ∧ dk.toList = D.flatten ++ L.flatten ++ last ∧ Stb (ltOf cf) d.toList dk.toList ∧ dk.size = n) ∧ Aside (SWK oC k w0 blk off dk wr3))
          case atStart => exact ⟨0, 2 * bs, dk2, rfl, by go_num, by omega, by omega, by omega, by omega, ⟨[], L0, Runs.nil, HF.out.1, rfl, by simpa using HF.out.2.1, HF.out.2.2.1, HF.out.2.2.2⟩, S3⟩
          case round =>
            clear S3 HF
            obtain ⟨a2, b2, dk3, rfl, rfl, hc1, hc2, han2, hg3, HG, S3⟩ := hrel
            by_cases hbn2 : b2 ≤ n
            · have hbz3 : (b2 : Int) ≤ (n : Int) := by omega
              obtain ⟨D, L, e1, e2, e3, e4, e5, e6⟩ := HG.out
              have hlen := size_of e4
              simp only [List.length_append, e2.len, e3] at hlen
              obtain ⟨u, v, L', rfl⟩ : ∃ u v L', L = u :: v :: L' := by
                cases L with
                | nil => exfalso; have := HT.out.2; simp at hlen; omega
                | cons u t =>
                  cases t with
                  | nil => exfalso; have := HT.out.2; simp at hlen; omega
                  | cons v t => exact ⟨u, v, t, rfl⟩
              have hu := e2 u (List.mem_cons_self ..)
              have hv := e2 v (List.mem_cons_of_mem _ (List.mem_cons_self ..))
              have HC : Hid _ := HM.out (a2 : Int) ((a2 : Int) + (bs : Int)) (b2 : Int) (n : Int) dk3 wr D.flatten u v (L'.flatten ++ last) (by omega) (by have := HN.out; omega) S3.out (by rw [e4]; simp) (by omega) (by omega) (by omega) (by omega) (by omega) hu.2 hv.2 (by omega)
              rw [Int.toNat_natCast] at HC
              have HE : Hid (Runs (ltOf cf) (2 * bs) D ∧ Runs (ltOf cf) bs L' ∧ D.flatten.length = a2 ∧ dk3.toList = D.flatten ++ (u ++ v) ++ (L'.flatten ++ last) ∧ Stb (ltOf cf) d.toList dk3.toList ∧ dk3.size = n ∧ u.length = bs ∧ v.length = bs) :=
                ⟨e1, fun c hc => e2 c (List.mem_cons_of_mem _ (List.mem_cons_of_mem _ hc)), e3, by rw [e4]; simp, e5, e6, hu.1, hv.1⟩
              clear e1 e2 e3 e4 e5 e6 hu hv hlen HG S3
              go_wp2_with fail
              refine Calls.mono HC.out ?_
              rintro e w5 ⟨rfl, d5, r, hd5, hr1, hr2, hr3, S5⟩
              have HD5 : Hid (d5.toList = D.flatten ++ r ++ (L'.flatten ++ last) ∧ Srt (ltOf cf) r ∧ Stb (ltOf cf) (u ++ v) r ∧ r.length = u.length + v.length) := ⟨hd5, hr1, hr2, hr3⟩
              have S5' : Aside _ := S5
              clear hd5 hr1 hr2 hr3 S5 HC
              go_wp2
              go_roundg (n - b2)
              case measure => omega
              case rel =>
                obtain ⟨e1, e2, e3, e4, e5, e6, e7, e8⟩ := HE.out
                obtain ⟨f1, f2, f3, f4⟩ := HD5.out
                refine ⟨b2, b2 + 2 * bs, d5, rfl, by go_num, by omega, by omega, hbn2, Nat.le_refl _, ⟨D ++ [r], L', e1.snoc (by omega) f2, e2, by simp only [List.flatten_append, List.length_append, e3, List.flatten_cons, List.flatten_nil, List.append_nil]; omega, by rw [f1]; simp, ?_, ?_⟩, S5'⟩
                · rw [f1]
                  exact e5.trans (by rw [e4]; exact Stb.mid f3)
                · have h1 := size_of f1; have h2 := size_of e4; simp only [List.length_append] at h1 h2; omega
            · have hbz3 : ¬ (b2 : Int) ≤ (n : Int) := by omega
              have hbz4 : (n : Int) < (b2 : Int) := by omega
              by_cases hm : a2 + bs < n
              · have hmz : (a2 : Int) + (bs : Int) < (n : Int) := by omega
                obtain ⟨D, L, e1, e2, e3, e4, e5, e6⟩ := HG.out
                have hlen := size_of e4
                simp only [List.length_append, e2.len, e3] at hlen
                obtain ⟨u, rfl⟩ : ∃ u, L = [u] := by
                  cases L with
                  | nil => exfalso; have := HT.out.2; simp at hlen; omega
                  | cons u t =>
                    cases t with
                    | nil => exact ⟨u, rfl⟩
                    | cons v t => exfalso; simp [Nat.add_mul] at hlen; omega
                have hu := e2 u (List.mem_cons_self ..)
                simp at hlen
                have HC : Hid _ := HM.out (a2 : Int) ((a2 : Int) + (bs : Int)) (n : Int) (n : Int) dk3 wr D.flatten u last [] (by omega) (by have := HN.out; omega) S3.out (by rw [e4]; simp) (by omega) (by omega) (by omega) (by omega) (by omega) hu.2 HT.out.1 (by omega)
                rw [Int.toNat_natCast] at HC
                have HE : Hid (Runs (ltOf cf) (2 * bs) D ∧ D.flatten.length = a2 ∧ dk3.toList = D.flatten ++ (u ++ last) ++ [] ∧ Stb (ltOf cf) d.toList dk3.toList ∧ dk3.size = n ∧ u.length = bs) := ⟨e1, e3, by rw [e4]; simp, e5, e6, hu.1⟩
                clear e1 e2 e3 e4 e5 e6 hu hlen HG S3
                go_wp2_with fail
                refine Calls.mono HC.out ?_
                rintro e w5 ⟨rfl, d5, r, hd5, hr1, hr2, hr3, S5⟩
                have HD5 : Hid (d5.toList = D.flatten ++ r ++ [] ∧ Srt (ltOf cf) r ∧ Stb (ltOf cf) (u ++ last) r ∧ r.length = u.length + last.length) := ⟨hd5, hr1, hr2, hr3⟩
                have S5' : Aside _ := S5
                clear hd5 hr1 hr2 hr3 S5 HC
                go_wp2
                go_roundg (n - 2 * bs)
                case measure => omega
                case rel =>
                  obtain ⟨e1, e3, e4, e5, e6, e7⟩ := HE.out
                  obtain ⟨f1, f2, f3, f4⟩ := HD5.out
                  refine ⟨2 * bs, d5, by first | go_num | (congr 1; omega), by omega, by omega, Nat.le_refl _, ⟨D, r, e1, f2, by have := HT.out.2; omega, by rw [f1]; simp, ?_, ?_⟩, S5'⟩
                  · rw [f1]
                    exact e5.trans (by rw [e4]; exact Stb.mid f3)
                  · have h1 := size_of f1; have h2 := size_of e4; simp only [List.length_append] at h1 h2; omega
              · have hmz : ¬ (a2 : Int) + (bs : Int) < (n : Int) := by omega
                have hmz2 : (n : Int) ≤ (a2 : Int) + (bs : Int) := by omega
                go_wp2
                go_roundg (n - 2 * bs)
                case measure => omega
                case rel =>
                  refine ⟨2 * bs, dk3, by first | go_num | (congr 1; omega), by omega, by omega, Nat.le_refl _, ?_, S3⟩
                  obtain ⟨D, L, e1, e2, e3, e4, e5, e6⟩ := HG.out
                  have hlen := size_of e4
                  simp only [List.length_append, e2.len, e3] at hlen
                  cases L with
                  | nil => exact ⟨D, last, e1, HT.out.1, by have := HT.out.2; omega, by rw [e4]; simp, e5, e6⟩
                  | cons u t =>
                    cases t with
                    | nil =>
                      have hu := e2 u (List.mem_cons_self ..)
                      simp at hlen
                      have hz : last = [] := List.eq_nil_of_length_eq_zero (by omega)
                      subst hz
                      exact ⟨D, u, e1, hu.2, by omega, by rw [e4]; simp, e5, e6⟩
                    | cons v t => exfalso; simp [Nat.add_mul] at hlen; omega
        · have hltz : ¬ (bs : Int) < (n : Int) := by omega
          have hltz2 : (n : Int) ≤ (bs : Int) := by omega
          go_wp2
          go_end0
          obtain ⟨L, last, k1, k2, k3, k4, k5, k6⟩ := HK.out
          have hlen := size_of k4
          simp only [List.length_append, k1.len] at hlen
          rw [HW.out] at S3
          refine ⟨rfl, dk2, stab_of HH.out ?_ k5, S3.out⟩
          rw [k4]
          cases L with
          | nil => simpa using k2
          | cons u t =>
            cases t with
            | nil =>
              have hu := k1 u (List.mem_cons_self ..)
              simp at hlen
              have hz : last = [] := List.eq_nil_of_length_eq_zero (by omega)
              subst hz
              simpa using hu.2
            | cons v t => exfalso; simp [Nat.add_mul] at hlen; omega
end Go.Proofs.YtladgfngddgnlaaGreatDoor.Cal

namespace Go.Proofs.YtladgfngddgnlaaGreatDoor.Cal
open Go.Shelf Go.RowKit Go.Lib Go.Sort
set_option linter.unusedSimpArgs false
set_option linter.unusedVariables false

/-- Nothing but new blocks and draws. -/
def Gr (w w' : World) : Prop := ∃ q os, w' = grow (w.drewN q) os
theorem Gr.refl (w : World) : Gr w w := ⟨0, #[], by rw [grow_empty]; rfl⟩
theorem Gr.drew {w w' : World} (h : Gr w w') : Gr w w'.drew := by
  obtain ⟨q, os, rfl⟩ := h
  exact ⟨q + 1, os, rfl⟩
theorem Gr.trans {a b c : World} (h : Gr a b) (k : Gr b c) : Gr a c := by
  obtain ⟨q, os, rfl⟩ := h
  obtain ⟨q', os', rfl⟩ := k
  exact ⟨q + q', os ++ os', by show grow (grow ((a.drewN q).drewN q') os) os' = _; rw [grow_grow, World.drewN_drewN]⟩
theorem Gr.alloc {w w' : World} (h : Gr w w') (o : Obj) : Gr w (w'.alloc o) := h.trans ⟨0, #[o], by rw [alloc_eq_grow]; rfl⟩
theorem Gr.below {w w' : World} (h : Gr w w') : Below w.heap.size w w' := by
  obtain ⟨q, os, rfl⟩ := h
  refine ⟨rfl, rfl, rfl, by simp [grow, World.drewN], fun k hk => ?_⟩
  show (w.heap ++ os)[k]? = w.heap[k]?
  rw [Array.getElem?_append_left hk]
theorem Gr.cell {w w' : World} (h : Gr w w') {p : Addr} {v : Value} (hv : w.cell? p = some v) : w'.cell? p = some v := (h.below.cell (World.block_lt_of_cell? w _ hv)).trans hv

/-- Orders that can be read: a slice of them. -/
def Ods (w : World) (v : Value) (l : List Od) : Prop := ∃ p cap, v = .slice p l.length cap ∧ (l = [] ∨ ∃ g off, p = some ⟨g, off, none⟩ ∧ ∀ i o j u, l[i]? = some o → (oC o)[j]? = some u → w.cell? ⟨g, off + i * 6 + j, none⟩ = some u)
theorem Ods.below {w w' : World} {v : Value} {l : List Od} (h : Ods w v l) (hb : Below w.heap.size w w') : Ods w' v l := by
  obtain ⟨p, cap, h1, h2⟩ := h
  refine ⟨p, cap, h1, ?_⟩
  rcases h2 with h2 | ⟨g, off, h2, h3⟩
  · exact Or.inl h2
  · exact Or.inr ⟨g, off, h2, fun i o j u a b => (hb.cell (World.block_lt_of_cell? w _ (h3 i o j u a b))).trans (h3 i o j u a b)⟩
theorem ods_own {w : World} {base : Nat} {t : TypeId} {v : Value} {l : List Od} (h : w.ownsRow base t 6 v l.length (odL l)) : Ods w v l := by
  rcases h.2 with ⟨h1, h2⟩ | ⟨g, cap, cur, h1, h2, h3, h4, h5, h6, h7⟩
  · exact ⟨none, 0, by rw [h1, h2], Or.inl (List.eq_nil_of_length_eq_zero h2)⟩
  · refine ⟨_, cap, h1, Or.inr ⟨g, 0, rfl, fun i o j u a b => ?_⟩⟩
    have := h.cells (g := g) (by rw [h1]; rfl) (i * 6 + j) u (odL_get l i j o u a b)
    have e : (⟨g, 0, none⟩ : Addr).add (i * 6 + j) = ⟨g, 0 + i * 6 + j, none⟩ := by unfold Addr.add; split <;> simp_all
    rw [e] at this
    exact this
/-- Six cells of an order. -/
theorem Ods.six {w : World} {g off : Nat} {l : List Od} (h : ∀ i o j u, l[i]? = some o → (oC o)[j]? = some u → w.cell? ⟨g, off + i * 6 + j, none⟩ = some u) {i : Nat} {o : Od} (hi : l[i]? = some o) :
    w.cell? ⟨g, off + i * 6, none⟩ = some (.int .i64 o.id) ∧ w.cell? ⟨g, off + i * 6 + 1, none⟩ = some (.int .i64 o.own) ∧ w.cell? ⟨g, off + i * 6 + 2, none⟩ = some (.int .i64 o.pr) ∧ w.cell? ⟨g, off + i * 6 + 3, none⟩ = some (.int .i64 o.am) ∧ w.cell? ⟨g, off + i * 6 + 4, none⟩ = some (.int .i64 o.pl) ∧ w.cell? ⟨g, off + i * 6 + 5, none⟩ = some (.bool o.by) :=
  ⟨h i o 0 _ hi rfl, h i o 1 _ hi rfl, h i o 2 _ hi rfl, h i o 3 _ hi rfl, h i o 4 _ hi rfl, h i o 5 _ hi rfl⟩

/-- What a sort leaves of a row of one's own. -/
theorem flat_odL (d : Array Od) : (flatK oC 6 d).toList = odL d.toList := by
  apply List.ext_getElem?
  intro t
  rcases Nat.lt_or_ge t (d.size * 6) with h | h
  · have hi : t / 6 < d.size := by omega
    have hd : d.toList[t / 6]? = some d[t / 6]! := by rw [getElem!_pos d _ hi]; simp [hi]
    have hj : t % 6 < (oC d[t / 6]!).length := by rw [oC_len]; omega
    have := odL_get d.toList (t / 6) (t % 6) d[t / 6]! (oC d[t / 6]!)[t % 6]! hd (by rw [getElem!_pos (oC d[t / 6]!) _ hj]; simp [hj])
    rw [show t / 6 * 6 + t % 6 = t by omega] at this
    rw [this]
    have hs : t < (flatK oC 6 d).size := by rw [size_flatK]; exact h
    have e := get_flatK oC 6 d t h
    rw [getElem!_pos _ t hs] at e
    rw [Array.getElem?_toList, Array.getElem?_eq_getElem hs, e]
  · rw [List.getElem?_eq_none (by simp only [Array.length_toList, size_flatK]; exact h), List.getElem?_eq_none (by rw [odL_len]; simpa using h)]
theorem sort_heap {W : World} {g q : Nat} {t : TypeId} {cs : Array Value} {d : Array Od} {os : Array Obj} (hB : Blk W g cs t) (hs : d.size * 6 ≤ cs.size) :
    Blk (sortWorldK oC 6 W g 0 q d os) g (odL d.toList ++ cs.toList.drop (d.size * 6)).toArray t := by
  have hgl := hB.lt
  have hB' : W.heap[g]? = some (.cells cs t (0, 0)) := hB
  show (sortWorldK oC 6 W g 0 q d os).heap[g]? = some (.cells _ t (0, 0))
  unfold sortWorldK grow putRowK putRow mapBlock
  show (W.heap.modify g (onCells (putCells id 0 (flatK oC 6 d))) ++ os)[g]? = _
  rw [Array.getElem?_append_left (by simpa using hgl), Array.getElem?_modify, if_pos rfl, hB']
  simp only [Option.map_some, onCells]
  congr 2
  apply Array.ext_getElem?
  intro k
  have hf : (flatK oC 6 d).size = d.size * 6 := size_flatK ..
  have hfl : (odL d.toList).length = d.size * 6 := by rw [odL_len]; simp
  unfold putCells
  rcases Nat.lt_or_ge k (d.size * 6) with hk | hk
  · have h1 : k < cs.size := by omega
    have e : (odL d.toList)[k]? = some (flatK oC 6 d)[k]! := by
      rw [← flat_odL, Array.getElem?_toList, Array.getElem?_eq_getElem (by omega), getElem!_pos _ k (by omega)]
    have e2 : (odL d.toList ++ cs.toList.drop (d.size * 6)).toArray[k]? = some (flatK oC 6 d)[k]! := by
      rw [List.getElem?_toArray, List.getElem?_append_left (by omega), e]
    rw [e2]
    simp [h1, hf, hk]
  · have e2 : (odL d.toList ++ cs.toList.drop (d.size * 6)).toArray[k]? = cs.toList[k]? := by
      rw [List.getElem?_toArray, List.getElem?_append_right (by omega), hfl, List.getElem?_drop, show d.size * 6 + (k - d.size * 6) = k by omega]
    rw [e2]
    rcases Nat.lt_or_ge k cs.size with h1 | h1
    · simp [h1, hf]; omega
    · simp [h1]
theorem sort_off {W : World} {g q : Nat} {d : Array Od} {os : Array Obj} : Off g W (sortWorldK oC 6 W g 0 q d os) := by
  refine ⟨rfl, rfl, rfl, ?_, ?_⟩
  · unfold sortWorldK grow putRowK putRow mapBlock
    show W.heap.size ≤ (W.heap.modify g (onCells (putCells id 0 (flatK oC 6 d))) ++ os).size
    simp
  · intro k hk hg
    unfold sortWorldK grow putRowK putRow mapBlock
    show (W.heap.modify g (onCells (putCells id 0 (flatK oC 6 d))) ++ os)[k]? = W.heap[k]?
    rw [Array.getElem?_append_left (by simpa using hk), Array.getElem?_modify, if_neg (by omega)]
theorem holds_own {w : World} {g : Nat} {cs : Array Value} {t : TypeId} {d : Array Od} (hB : Blk w g cs t) (h : cs.toList.take (d.size * 6) = odL d.toList) : HoldsK oC 6 w g 0 d := by
  intro j hj
  rw [size_flatK] at hj
  have hs : j < (flatK oC 6 d).size := by rw [size_flatK]; exact hj
  refine ⟨?_, frozen_of_row w g _ cs t hB⟩
  rw [cell_of_row w g _ cs t (0, 0) hB, Nat.zero_add, getElem!_pos _ j hs]
  have e : (odL d.toList)[j]? = some (flatK oC 6 d)[j] := by rw [← flat_odL, Array.getElem?_toList, Array.getElem?_eq_getElem hs]
  rw [← h, List.getElem?_take, if_pos hj] at e
  simpa using e

theorem aggO (w : World) : (isAgg 92).run Tryz.prog w = .ok true w := by
  kernel_rfl
theorem sizO (w : World) : (Go.sizeOf 92).run Tryz.prog w = .ok 6 w := by
  kernel_rfl

set_option maxHeartbeats 4000000 in
set_option maxRecDepth 100000 in
theorem insNil_calls (fv : Value) (w : World) : Calls Tryz.prog 182 #[.slice none 0 0, .int .i64 0, .int .i64 0, fv] w fun e w' => e = .returned (.tuple #[]) ∧ w' = w := by
  go_enter Tryz.func182, Tryz.ntmps182
  go_wp2
  refine wp_loop_rounds 1 ?_
  rw [rounds_succ]
  go_wp2
  go_end0
  exact ⟨rfl, rfl⟩
set_option maxHeartbeats 4000000 in
set_option maxRecDepth 100000 in
theorem stableNil_calls (fv : Value) (w : World) : Calls Tryz.prog 181 #[.slice none 0 0, .int .i64 0, fv] w fun e w' => e = .returned (.tuple #[]) ∧ w' = w := by
  have h := insNil_calls fv w
  go_enter Tryz.func181, Tryz.ntmps181
  go_wp2
  refine wp_loop_rounds 1 ?_
  rw [rounds_succ]
  go_wp2_with fail
  refine h.mono ?_
  rintro e w1 ⟨rfl, rfl⟩
  go_wp2
  refine wp_loop_rounds 1 ?_
  rw [rounds_succ]
  go_wp2
  go_end0
  exact ⟨rfl, rfl⟩
set_option maxHeartbeats 4000000 in
set_option maxRecDepth 100000 in
/-- slices.SortStableFunc at a row of one's own. -/
theorem sortStable_calls (cf : Od → Od → Int) (hO : SWO (ltOf cf)) (g : Nat) (cb : Array Value) (base : Nat) (v : Value) (l : List Od) (w : World) (eg : ∀ args w, (callFunc g args).run Tryz.prog w = .ok (.enter g args) w)
    (hcmp : ∀ x y wx, (∀ r, v.ownBlock = some r → Off r w wx) → (v.ownBlock = none → Below w.heap.size w wx) → Calls Tryz.prog g (#[.agg (oC x).toArray, .agg (oC y).toArray] ++ cb) wx fun e w' => e = .returned (.int .i64 (cf x y)) ∧ Gr wx w')
    (hown : w.ownsRow base 92 6 v l.length (odL l)) (hl : l.length < 1000000) :
    Calls Tryz.prog 174 #[v, .func (.func g) #[] cb] w fun e w' => e = .returned (.tuple #[]) ∧ w'.ownsRow base 92 6 v l.length (odL (stab (ltOf cf) l)) ∧ (v.ownBlock = none → w' = w) ∧ (∀ r, v.ownBlock = some r → Off r w w') := by
  rcases hown.2 with ⟨rfl, h0⟩ | ⟨r, cap, cur, rfl, hb, hB, hnc, hcm, hcs, ht⟩
  · have hl0 : l = [] := List.eq_nil_of_length_eq_zero h0
    subst hl0
    have h := stableNil_calls (.func (.func g) #[] cb) w
    go_enter Tryz.func174, Tryz.ntmps174
    go_wp2_with fail
    refine h.mono ?_
    rintro e w1 ⟨rfl, rfl⟩
    go_wp2
    go_end0
    exact ⟨rfl, hown, fun _ => rfl, fun r hr => by cases hr⟩
  · have hBl : Blk w r cur 92 := hB
    have hd : (l.toArray).toList = l := by simp
    have hds : (l.toArray).size = l.length := by simp
    have R : RowK oC 6 w r 0 l.toArray := ⟨oC_len, oC_one, holds_own hBl (by rw [hds, ht, hd]), hBl.lt⟩
    have hC : CmpLays Tryz.prog g cb oC 6 cf r 0 l.toArray.size w := by
      intro m os dk hdk x y
      refine (hcmp x y _ (fun r' hr' => ?_) (fun h => by cases h)).mono fun e w' h => ⟨h.1, h.2⟩
      injection hr' with hr'
      rw [← hr']; exact sort_off
    have h := stable_calls 6 aggO sizO cf hO g cb r 0 cap l.toArray w eg hC R (by rw [hds]; exact hl)
    rw [hds] at h
    have H : Hid _ := h
    have HO : Hid _ := hown
    clear h hC R hown hB hBl hcs ht
    go_enter Tryz.func174, Tryz.ntmps174
    go_wp2_with fail
    refine Calls.mono H.out ?_
    rintro e w1 ⟨rfl, d', hd', S⟩
    go_wp2
    go_end0
    obtain ⟨q, os, rfl⟩ := S
    rcases HO.out.2 with ⟨h1, _⟩ | ⟨r', cap', cur', h1, hb', hB', hnc', hcm', hcs', ht'⟩
    · cases h1
    · injection h1 with h1 h2 h3
      injection h1 with h1
      injection h1 with h1
      subst h1 h3
      have hsz : d'.size = l.length := by rw [size_of hd', stab_len]
      refine ⟨rfl, ⟨by rw [odL_len, stab_len], Or.inr ⟨r, cap, _, rfl, hb', sort_heap (cs := cur') hB' (by rw [hsz, hcs']; exact Nat.mul_le_mul_right _ hnc'), hnc', hcm', ?_, ?_⟩⟩, (fun h => by cases h), fun r' hr' => ?_⟩
      · have : (l.length) * 6 ≤ cap * 6 := Nat.mul_le_mul_right _ hnc'
        simp only [List.size_toArray, List.length_append, odL_len, List.length_drop, Array.length_toList, hsz]
        omega
      · rw [hd']
        rw [List.take_left' (by rw [odL_len, stab_len])]
      · injection hr' with hr'
        rw [← hr']; exact sort_off

set_option maxRecDepth 100000 in
theorem withinC_calls (n x y : Int) (w : World) : Calls Tryz.prog 152 #[.int .i64 n, .int .i64 x, .int .i64 y] w fun e w' => e = .returned (.bool (decide (x ≤ n ∧ n ≤ y))) ∧ w' = w := by
  by_cases h0 : x ≤ n
  · have h1 : decide (x ≤ n) = true := decide_eq_true h0
    go_enter Tryz.func152, Tryz.ntmps152
    go_wp2
    go_ret
    exact ⟨by simp [h0], rfl⟩
  · have h1 : decide (x ≤ n) = false := decide_eq_false h0
    go_enter Tryz.func152, Tryz.ntmps152
    go_wp2
    go_ret
    exact ⟨by simp [h0], rfl⟩
theorem mayBe_calls (o : Od) (w : World) : Calls Tryz.prog 127 #[.agg (oC o).toArray] w fun e w' => e = .returned (.bool (mayB o)) ∧ Gr w w' := by
  have h1 := fun w => withinC_calls o.id 0 9007199254740992 w
  have h2 := fun w => withinC_calls o.own 0 15 w
  have h3 := fun w => withinC_calls o.pr 0 1099511627776 w
  have h4 := fun w => withinC_calls o.am 1 1048576 w
  have HM : Hid (mayB o = (decide (0 ≤ o.id ∧ o.id ≤ 9007199254740992) && decide (0 ≤ o.own ∧ o.own ≤ 15) && decide (0 ≤ o.pr ∧ o.pr ≤ 1099511627776) && decide (1 ≤ o.am ∧ o.am ≤ 1048576))) := rfl
  unfold oC
  generalize decide (0 ≤ o.id ∧ o.id ≤ 9007199254740992) = K1 at *
  generalize decide (0 ≤ o.own ∧ o.own ≤ 15) = K2 at *
  generalize decide (0 ≤ o.pr ∧ o.pr ≤ 1099511627776) = K3 at *
  generalize decide (1 ≤ o.am ∧ o.am ≤ 1048576) = K4 at *
  generalize mayB o = M at *
  generalize o.id = x1 at *
  generalize o.own = x2 at *
  generalize o.pr = x3 at *
  generalize o.am = x4 at *
  generalize o.pl = x5 at *
  generalize o.by = x6 at *
  cases K1
  · go_enter Tryz.func127, Tryz.ntmps127
    go_wp2_with fail
    refine (h1 _).mono ?_
    rintro e w1 ⟨rfl, rfl⟩
    go_wp2
    go_ret
    exact ⟨by rw [HM.out]; rfl, (Gr.refl _).alloc _⟩
  · cases K2
    · go_enter Tryz.func127, Tryz.ntmps127
      go_wp2_with fail
      refine (h1 _).mono ?_
      rintro e w1 ⟨rfl, rfl⟩
      go_wp2_with fail
      refine (h2 _).mono ?_
      rintro e w1 ⟨rfl, rfl⟩
      go_wp2
      go_ret
      exact ⟨by rw [HM.out]; rfl, (Gr.refl _).alloc _⟩
    · cases K3
      · go_enter Tryz.func127, Tryz.ntmps127
        go_wp2_with fail
        refine (h1 _).mono ?_
        rintro e w1 ⟨rfl, rfl⟩
        go_wp2_with fail
        refine (h2 _).mono ?_
        rintro e w1 ⟨rfl, rfl⟩
        go_wp2_with fail
        refine (h3 _).mono ?_
        rintro e w1 ⟨rfl, rfl⟩
        go_wp2
        go_ret
        exact ⟨by rw [HM.out]; rfl, (Gr.refl _).alloc _⟩
      · go_enter Tryz.func127, Tryz.ntmps127
        go_wp2_with fail
        refine (h1 _).mono ?_
        rintro e w1 ⟨rfl, rfl⟩
        go_wp2_with fail
        refine (h2 _).mono ?_
        rintro e w1 ⟨rfl, rfl⟩
        go_wp2_with fail
        refine (h3 _).mono ?_
        rintro e w1 ⟨rfl, rfl⟩
        go_wp2_with fail
        refine (h4 _).mono ?_
        rintro e w1 ⟨rfl, rfl⟩
        go_wp2
        go_ret
        exact ⟨by rw [HM.out]; simp, (Gr.refl _).alloc _⟩
end Go.Proofs.YtladgfngddgnlaaGreatDoor.Cal

namespace Go.Proofs.YtladgfngddgnlaaGreatDoor.Cal
open Go.Shelf Go.RowKit Go.Lib Go.Sort
set_option linter.unusedSimpArgs false
set_option linter.unusedVariables false

theorem ownB {w w' : World} {base : Nat} {e : TypeId} {sz : Nat} {v : Value} {n : Nat} {xs : List Value} (ho : w.ownsRow base e sz v n xs) (hb : Below w.heap.size w w') : w'.ownsRow base e sz v n xs :=
  ho.kept (row := none) ⟨hb.os, hb.tape, hb.output, hb.size, fun k hk _ => hb.block k hk⟩ (by cases v.ownBlock <;> simp)
theorem belG {B : Nat} {z w w' : World} {row : Option Nat} (h : Below B z w) (hg : w.grownBy w' row) (hr : ∀ k, row = some k → B ≤ k) (hbs : B ≤ w.heap.size) : Below B z w' :=
  h.trans ⟨hg.os, hg.tape, hg.output, hg.size, fun k hk => hg.block k (by omega) (fun e => by have := hr k e.symm; omega)⟩
theorem own_form {w : World} {base : Nat} {e : TypeId} {sz : Nat} {v : Value} {n : Nat} {xs : List Value} (ho : w.ownsRow base e sz v n xs) : ∃ c cap, v = .slice c n cap := by
  rcases ho.2 with ⟨rfl, h⟩ | ⟨g, cap, cur, rfl, _⟩
  · rw [h]; exact ⟨none, 0, rfl⟩
  · exact ⟨_, _, rfl⟩
theorem infoO : (Tryz.prog.info? 92).map (fun i => (i.zero, i.size, i.bytes)) = some (some (.agg #[.int .i64 0, .int .i64 0, .int .i64 0, .int .i64 0, .int .i64 0, .bool false]), 6, 48) := by kernel_rfl
theorem infoO6 (o : Od) : (Tryz.prog.info? 92).map (·.size) = some (oC o).toArray.size := by
  have h : (Tryz.prog.info? 92).map (·.size) = some 6 := by kernel_rfl
  rw [h]; rfl

set_option maxRecDepth 100000 in
theorem buysAt_calls (p : Int) (w : World) : Calls Tryz.prog 162 #[.int .i64 p] w fun e w' => e = .returned (.func (.func 177) #[] #[.pointer (some ⟨w.heap.size, 0, none⟩)]) ∧ w'.cell? ⟨w.heap.size, 0, none⟩ = some (.int .i64 p) ∧ Gr w w' := by
  go_enter Tryz.func162, Tryz.ntmps162
  go_wp2
  go_ret
  exact ⟨rfl, by simp, (Gr.refl _).alloc _⟩
set_option maxRecDepth 100000 in
theorem sellsAt_calls (p : Int) (w : World) : Calls Tryz.prog 165 #[.int .i64 p] w fun e w' => e = .returned (.func (.func 179) #[] #[.pointer (some ⟨w.heap.size, 0, none⟩)]) ∧ w'.cell? ⟨w.heap.size, 0, none⟩ = some (.int .i64 p) ∧ Gr w w' := by
  go_enter Tryz.func165, Tryz.ntmps165
  go_wp2
  go_ret
  exact ⟨rfl, by simp, (Gr.refl _).alloc _⟩
set_option maxRecDepth 100000 in
theorem buysAt1_calls (o : Od) (p : Int) (bx : Nat) (w : World) (c : w.cell? ⟨bx, 0, none⟩ = some (.int .i64 p)) : Calls Tryz.prog 177 #[.agg (oC o).toArray, .pointer (some ⟨bx, 0, none⟩)] w fun e w' => e = .returned (.bool (bAt p o)) ∧ Gr w w' := by
  have hb := World.block_lt_of_cell? w _ c
  have hlt : bx < w.heap.size := hb
  have c2 := fun ob => (((Below.refl w.heap.size w).alloc (Nat.le_refl _) ob).cell (p := ⟨bx, 0, none⟩) hb).trans c
  unfold oC bAt
  generalize o.id = x1 at *
  generalize o.own = x2 at *
  generalize o.pr = x3 at *
  generalize o.am = x4 at *
  generalize o.pl = x5 at *
  generalize o.by = x6 at *
  cases x6
  · go_enter Tryz.func177, Tryz.ntmps177
    go_wp2
    go_ret
    exact ⟨by simp, (Gr.refl _).alloc _⟩
  · go_enter Tryz.func177, Tryz.ntmps177
    go_wp2
    go_ret
    exact ⟨by simp, (Gr.refl _).alloc _⟩
set_option maxRecDepth 100000 in
theorem sellsAt1_calls (o : Od) (p : Int) (bx : Nat) (w : World) (c : w.cell? ⟨bx, 0, none⟩ = some (.int .i64 p)) : Calls Tryz.prog 179 #[.agg (oC o).toArray, .pointer (some ⟨bx, 0, none⟩)] w fun e w' => e = .returned (.bool (sAt p o)) ∧ Gr w w' := by
  have hb := World.block_lt_of_cell? w _ c
  have hlt : bx < w.heap.size := hb
  have c2 := fun ob => (((Below.refl w.heap.size w).alloc (Nat.le_refl _) ob).cell (p := ⟨bx, 0, none⟩) hb).trans c
  unfold oC sAt
  generalize o.id = x1 at *
  generalize o.own = x2 at *
  generalize o.pr = x3 at *
  generalize o.am = x4 at *
  generalize o.pl = x5 at *
  generalize o.by = x6 at *
  cases x6
  · go_enter Tryz.func179, Tryz.ntmps179
    go_wp2
    go_ret
    exact ⟨by simp, (Gr.refl _).alloc _⟩
  · go_enter Tryz.func179, Tryz.ntmps179
    go_wp2
    go_ret
    exact ⟨by simp, (Gr.refl _).alloc _⟩

theorem take_odd {l : List Od} {k : Nat} {o : Od} (h : l[k]? = some o) : l.take (k + 1) = l.take k ++ [o] := by
  have hk := (List.getElem?_eq_some_iff.1 h)
  rw [List.take_succ_eq_append_getElem hk.1, hk.2]

set_option maxHeartbeats 4000000 in
set_option maxRecDepth 100000 in
/-- The orders that are chosen, in memory of their own. -/
theorem pick_calls (f : Od → Bool) (g : Nat) (cb : Array Value) (v : Value) (l : List Od) (w : World) (eg : ∀ args w, (callFunc g args).run Tryz.prog w = .ok (.enter g args) w) (hl : Ods w v l) (hn : l.length ≤ 2932031007402)
    (hf : ∀ o wx, Below w.heap.size w wx → Calls Tryz.prog g (#[.agg (oC o).toArray] ++ cb) wx fun e w' => e = .returned (.bool (f o)) ∧ Below wx.heap.size wx w') :
    Calls Tryz.prog 172 #[v, .func (.func g) #[] cb] w fun e w' => ∃ v', e = .returned v' ∧ w'.ownsRow w.heap.size 92 6 v' (l.filter f).length (odL (l.filter f)) ∧ Below w.heap.size w w' := by
  obtain ⟨i0, hi, hz0, hz1, hz2⟩ := info_parts infoO
  obtain ⟨p, cap, rfl, hc⟩ := hl
  have hun := Tryz.underlying92
  have HC : Hid _ := hc
  have HF : Hid _ := hf
  clear hc hf
  go_enter Tryz.func172, Tryz.ntmps172
  go_wp2
  go_loopw [5, 10] (fun ov i wr => ∃ k : Nat, k ≤ l.length ∧ i = .int .i64 k ∧ Hid (wr.ownsRow w.heap.size 92 6 ov ((l.take k).filter f).length (odL ((l.take k).filter f))) ∧ Below w.heap.size w wr) (fun _ i _ => l.length - (intOf i).toNat)
  case atStart => exact ⟨0, Nat.zero_le _, rfl, World.ownsRow_nil _ _ _ _, Below.refl _ _⟩
  case round =>
    obtain ⟨k, hk, rfl, HO, hb⟩ := hrel
    have hz := hb.size
    obtain ⟨oc, ocap, rfl⟩ := own_form HO.out
    by_cases hlt : k < l.length
    · have hd : decide ((k : Int) < l.length) = true := by simp only [decide_eq_true_eq]; omega
      obtain ⟨o, ho⟩ : ∃ o, l[k]? = some o := ⟨l[k], by simp [hlt]⟩
      rcases HC.out with hnil | ⟨gb, off, hp, hcs⟩
      · exfalso; rw [hnil] at hlt; simp at hlt
      subst hp
      obtain ⟨c0, c1, c2, c3, c4, c5⟩ := Ods.six hcs ho
      have hbl := World.block_lt_of_cell? w _ c0
      have d0 := (hb.cell (p := ⟨gb, off + k * 6, none⟩) hbl).trans c0
      have d1 := (hb.cell (p := ⟨gb, off + k * 6 + 1, none⟩) hbl).trans c1
      have d2 := (hb.cell (p := ⟨gb, off + k * 6 + 2, none⟩) hbl).trans c2
      have d3 := (hb.cell (p := ⟨gb, off + k * 6 + 3, none⟩) hbl).trans c3
      have d4 := (hb.cell (p := ⟨gb, off + k * 6 + 4, none⟩) hbl).trans c4
      have d5 := (hb.cell (p := ⟨gb, off + k * 6 + 5, none⟩) hbl).trans c5
      have HT : Hid _ := take_odd ho
      have hfl : ((l.take k).filter f).length ≤ k := Nat.le_trans (List.length_filter_le _ _) (by simp; omega)
      have h6 := infoO6 o
      obtain ⟨W1, hW1, XM, B1, Z1⟩ : ∃ W1, (wr.alloc (.cells #[.int .i64 o.id, .int .i64 o.own, .int .i64 o.pr, .int .i64 o.am, .int .i64 o.pl, .bool o.by] 92)) = W1 ∧ Blk W1 wr.heap.size (oC o).toArray 92 ∧ Below wr.heap.size wr W1 ∧ W1.heap.size = wr.heap.size + 1 :=
        ⟨_, rfl, blk_new _ _ _ _ rfl, by go_grown, by simp⟩
      have HF1 : Hid _ := HF.out o W1 (hb.trans (B1.mono hz))
      have HOC : Hid (oC o = [.int .i64 o.id, .int .i64 o.own, .int .i64 o.pr, .int .i64 o.am, .int .i64 o.pl, .bool o.by]) := rfl
      clear c0 c1 c2 c3 c4 c5 hcs ho HF
      cases hfo : f o
      · rw [hfo] at HF1
        go_wp2_with ((with_reducible refine rd_row (ty := 92) XM hun rfl h6 ?_ ?_); rfl)
        go_at_fn g
        refine Calls.mono HF1.out ?_
        rintro e w2 ⟨rfl, b2⟩
        go_wp2
        refine ⟨⟨k + 1, by omega, by norm_cast, ?_, hb.trans ((B1.trans (b2.mono (by omega))).mono hz)⟩, by simp [intOf]; omega⟩
        show World.ownsRow _ _ _ _ _ _ _
        rw [HT.out, List.filter_append]
        simp only [List.filter_cons, hfo, List.filter_nil, Bool.false_eq_true, if_false, List.append_nil]
        exact ownB (ownB HO.out B1) b2
      · rw [hfo] at HF1
        go_wp2_with ((with_reducible refine rd_row (ty := 92) XM hun rfl h6 ?_ ?_); rfl)
        go_at_fn g
        refine Calls.mono HF1.out ?_
        rintro e w2 ⟨rfl, b2⟩
        have X2 : Blk w2 wr.heap.size #[.int .i64 o.id, .int .i64 o.own, .int .i64 o.pr, .int .i64 o.am, .int .i64 o.pl, .bool o.by] 92 := XM.below b2
        have h7 : (Tryz.prog.info? 92).map (·.size) = some (#[Value.int .i64 o.id, .int .i64 o.own, .int .i64 o.pr, .int .i64 o.am, .int .i64 o.pl, .bool o.by]).size := h6
        have z2 := b2.size
        have HO2 : Hid _ := ownB (ownB HO.out B1) b2
        have B2 := hb.trans ((B1.trans (b2.mono (by omega))).mono hz)
        clear XM hW1 d0 d1 d2 d3 d4 d5
        go_wp2_with (first | ((with_reducible refine rd_row (ty := 92) X2 hun rfl h7 ?_ ?_); rfl) | (at_builtin; refine wpList_append_own _ rfl (.tmp 17) (.tmp 19) 87 rfl w.heap.size 92 i0 (.agg #[.int .i64 0, .int .i64 0, .int .i64 0, .int .i64 0, .int .i64 0, .bool false]) 6 48 Tryz.underlying87 hi hz0 hz1 hz2 rfl (by decide) _ _ _ rfl (World.ownsRow.alloc HO2.out _) ⟨w2.heap.size, 0, none⟩ 1 1 (oC o) rfl rfl ?c1 ?c2 ?c3 ?c4 ?c5 ?_))
        case c1 =>
          intro j u hj
          rw [Addr.add_lit]
          refine (blk_new w2 w2.heap.size _ _ rfl).cell ?_
          simpa [oC] using hj
        case c2 => exact oC_one o
        case c3 => unfold maxLen; omega
        case c4 => omega
        case c5 => simp; omega
        intro v' w4 ho' hg' _
        go_wp2
        refine ⟨⟨k + 1, by omega, by norm_cast, ?_, ?_⟩, by simp [intOf]; omega⟩
        · show World.ownsRow _ _ _ _ _ _ _
          rw [HT.out, List.filter_append]
          simp only [List.filter_cons, hfo, List.filter_nil, if_true, odL_app, List.length_append, List.length_cons, List.length_nil, Nat.zero_add]
          rw [show odL [o] = oC o by simp [odL]]
          exact ho'
        · exact belG (B2.alloc (by omega) _) hg' (fun q hq => (World.ownsRow.lt HO2.out q hq).1) (by simp; omega)
    · have hd : decide ((k : Int) < l.length) = false := by simp only [decide_eq_false_iff_not]; omega
      go_wp2
      go_ret
      have htk : l.take k = l := List.take_of_length_le (by omega)
      refine ⟨.slice oc ((l.take k).filter f).length ocap, rfl, ?_, hb⟩
      have := HO.out
      rw [htk] at this ⊢
      exact this
end Go.Proofs.YtladgfngddgnlaaGreatDoor.Cal
