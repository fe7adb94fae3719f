/- At no price more is traded than is told: the cut, the argument. -/
import Derived.Test.YtjglmlojdhjgfaaCaMo
namespace Go.Proofs.Ytjglmlojdhjgfaa
open Go.ChangeShapes Go.WideShapes Go.ChangeAt Go.RowKit Go.Deep
set_option linter.unusedVariables false
set_option linter.unusedSimpArgs false
section
variable {H : Type} {enc : TypeId × Value → H} {w : World} {base : Nat} {spare : Nat → Bool} {held : Bool}
theorem open_odc {v : Value} {d : DataW H} {p : List MemPlace} (hv : v.cells = #[v]) (h : DataW.Trod enc Try.prog w base spare held 22 v d p) (hsz : (d.weights Try.prog 22).all (· ≤ reachBytes) = true) (hlt : ∀ x ∈ p, x.block < w.heap.size) :
    ∃ l : List Od, (Ods w v l ∧ ∀ p n c, v = .slice p n c → n ≤ c) ∧ l.length * 48 ≤ 140737488351232 := by
  obtain ⟨l, h1, h2⟩ := open_elems oC (fun _ => True) Try.underlying22 cellsO (fun _ => rfl) (by decide) bytesO (fun fuel cs x hx hw => by
    obtain ⟨o, ho⟩ := open_od hx
    exact ⟨o, ho, trivial⟩) hv h hsz hlt
  refine ⟨l, ⟨ods_elems h1, ?_⟩, h2⟩
  intro p n c e
  rcases h1 with ⟨⟨p', c', rfl⟩, rfl⟩ | ⟨b, off, cap, rfl, hl, hlc, hc⟩
  · injection e with _ e2 _; omega
  · injection e with _ e2 e3; omega
end
theorem most_calls (v : Value) (l : List Od) (price : Int) (w : World) (hl : Ods w v l ∧ ∀ p n c, v = .slice p n c → n ≤ c) (hn : l.length * 48 ≤ 140737488351232) :
    Calls Try.prog 4 #[v, .int .i64 price] w fun e w' => e = .returned (.bool true) ∧ Below w.heap.size w w' := by
  obtain ⟨pp, cap, hv, hc⟩ := hl.1
  have hle := hl.2 pp l.length cap hv
  by_cases h64 : l.length ≤ 64
  · exact most64_calls 0 0 cap pp v l price w (by rw [← hv]; exact hl.1) h64 false l.length cap hv (by simp)
  · rcases hc with hnil | ⟨g, off, hp, hcs⟩
    · exfalso; rw [hnil] at h64; simp at h64
    · have h64' : (l.take 64).length = 64 := by rw [List.length_take]; omega
      refine most64_calls g off cap pp v (l.take 64) price w ?_ (by omega) true l.length cap hv ?_
      · refine ⟨pp, cap, rfl, Or.inr ⟨g, off, hp, fun i o j u hi hu => hcs i o j u ?_ hu⟩⟩
        rw [List.getElem?_take] at hi
        split at hi
        · exact hi
        · cases hi
      · simp only [if_true]
        exact ⟨by omega, hle, h64', trivial, hp, by omega⟩
end Go.Proofs.Ytjglmlojdhjgfaa
