/-
  The walk of the statement DbmForm for every input.
-/
import Derived.Test.YtmnckhchpbdfjaaHi
namespace Go.Proofs.Ytmnckhchpbdfjaa
open Go.RowKit
set_option linter.unusedVariables false
set_option maxRecDepth 100000
namespace dbmForm
theorem walk (n : Int) (hn : (Lit.int .i64 n).wf = true) (v : Value) (l : List Int) (v' : Value) (l' : List Int) (w : World) (hS : SliceAt w v l) (wf : ∀ z ∈ l, (Lit.int .i32 z).wf = true) (hby : l.length * 4 ≤ 140737488355328) (hnil : ∀ {c}, v = .slice none 0 c → c = 0) (hS' : SliceAt w v' l') (wf' : ∀ z ∈ l', (Lit.int .i32 z).wf = true) (hby' : l'.length * 4 ≤ 140737488355328) (hnil' : ∀ {c}, v' = .slice none 0 c → c = 0) :
    Calls Try.prog 3 #[.int .i64 n, v, v'] w fun e w' => e = .returned (.bool true) ∧ Below w.heap.size w w' := by
  have t1 := of_tells n v l w hS (wf_list wf) (by omega)
  have t2 := of_tells n v' l' w hS' (wf_list wf') (by omega)
  rcases t1 with ⟨e, ne, h1⟩ | ⟨h1, N, c, rfl, N8, hl, hr, hz, o1⟩
  · rcases t2 with ⟨f, nf, h2⟩ | ⟨h2, -⟩
    · exact form_err n v v' e f w h1 h2 (.inl ne)
    · exact form_err n v v' e 0 w h1 h2 (.inl ne)
  · rcases t2 with ⟨f, nf, h2⟩ | ⟨h2, N', d, e', N8', hl', hr', hz', o2⟩
    · exact form_err _ v v' 0 f w h1 h2 (.inr ⟨rfl, nf⟩)
    · obtain rfl : N' = N := by omega
      rw [hl] at hz hr
      rw [hl'] at hz' hr'
      have rl : RightL ((N' + 1) * (N' + 1)) l := fun k hk => by
        have := hr k hk
        unfold rightB at this
        simpa using this
      have rl' : RightL ((N' + 1) * (N' + 1)) l' := fun k hk => by
        have := hr' k hk
        unfold rightB at this
        simpa using this
      have mc : Made N' c := ⟨_, fun i hi => drf_diag N' _ l rfl rl i hi, hz⟩
      have md : Made N' d := ⟨_, fun i hi => drf_diag N' _ l' rfl rl' i hi, hz'⟩
      cases q : decide (c 0 < 1) || decide (d 0 < 1)
      · obtain ⟨q1, q2⟩ := Bool.or_eq_false_iff.1 q
        obtain ⟨p, hp⟩ := full_of N8 rfl rl hz (by simpa using q1)
        obtain ⟨p', hp'⟩ := full_of N8 rfl rl' hz' (by simpa using q2)
        exact form_full N' _ v v' c d p p' w N8 rfl mc md q1 q2 hp hp' o1 o2
      · exact form_empty N' _ v v' c d w N8 rfl mc md q o1 o2
end dbmForm
end Go.Proofs.Ytmnckhchpbdfjaa
