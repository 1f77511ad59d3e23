/-
  The walk of the statement DbmCompares.
-/
import Derived.Test.YtbcfaepmhlanjaaEu
namespace Go.Proofs.Ytbcfaepmhlanjaa
open Go.RowKit
set_option linter.unusedVariables false
set_option maxRecDepth 100000
theorem RZone.weak {w : World} {B r n : Nat} {l : List Int} (h : RZone w B r n l) : RZone w 0 r n l := by
  obtain ⟨g, cap, h0, h1, h2, h3, h4⟩ := h
  exact ⟨g, cap, h0, h1, by omega, by omega, h4⟩
/-- What 'both' tells: nil twice, or a zone of the program's and the document's with the same cells. -/
def Pair (w : World) (n : Int) (vx vp : Value) : Prop := (vx = .pointer none ∧ vp = .pointer none) ∨ ∃ (N b r : Nat) (c : Row), n = N ∧ N ≤ 8 ∧ vx = .pointer (some ⟨b, 0, none⟩) ∧ vp = .pointer (some ⟨r, 0, none⟩) ∧ ZoneAt w b N c ∧ RZone w 0 r N (listOf c ((N + 1) * (N + 1))) ∧ Made N c
theorem pair_of {w' : World} {B : Nat} {n : Int} {x : Ending} (h : BothOut w' B n x) : ∃ vx vp, x = .returned (.tuple #[vx, vp, .bool true]) ∧ Pair w' n vx vp := by
  rcases h with rfl | ⟨N, c, b, r, rfl, N8, rfl, lb, hz, hr, hm⟩
  · exact ⟨_, _, rfl, .inl ⟨rfl, rfl⟩⟩
  · exact ⟨_, _, rfl, .inr ⟨N, b, r, c, rfl, N8, rfl, rfl, hz, hr.weak, hm⟩⟩
theorem Pair.past {w w' : World} {n : Int} {vx vp : Value} (h : Pair w n vx vp) (hb : Below w.heap.size w w') : Pair w' n vx vp := by
  rcases h with h | ⟨N, b, r, c, h1, h2, h3, h4, h5, h6, h7⟩
  · exact .inl h
  · exact .inr ⟨N, b, r, c, h1, h2, h3, h4, h5.past hb, h6.past hb, h7⟩
theorem agree_pairs {w : World} {n : Int} {vx vp vy vq : Value} (h : Pair w n vx vp) (h' : Pair w n vy vq) : ∃ i e m, Agree w vx vy vp vq i e m := by
  rcases h with ⟨rfl, rfl⟩ | ⟨N, b, r, c, rfl, N8, rfl, rfl, hz, hr, hm⟩
  · rcases h' with ⟨rfl, rfl⟩ | ⟨N', b', r', c', e', N8', rfl, rfl, hz', hr', hm'⟩
    · exact ⟨_, _, _, agree_no (fun w' _ => alike_nil _ w') (fun w' _ => ralike_nil _ w') (fun w' _ => requal_nil2 w')⟩
    · have mp : 0 < (N' + 1) * (N' + 1) := Nat.mul_pos (by omega) (by omega)
      have m81 : (N' + 1) * (N' + 1) ≤ 81 := Nat.mul_le_mul (show N' + 1 ≤ 9 by omega) (show N' + 1 ≤ 9 by omega)
      exact ⟨_, _, _, agree_no (fun w' _ => alike_nil _ w') (fun w' _ => ralike_nil _ w') (fun w' hb => requal_right (hr'.past hb) (listOf_len _ _) mp m81)⟩
  · have mp : 0 < (N + 1) * (N + 1) := Nat.mul_pos (by omega) (by omega)
    have m81 : (N + 1) * (N + 1) ≤ 81 := Nat.mul_le_mul (show N + 1 ≤ 9 by omega) (show N + 1 ≤ 9 by omega)
    rcases h' with ⟨rfl, rfl⟩ | ⟨N', b', r', c', e', N8', rfl, rfl, hz', hr', hm'⟩
    · exact ⟨_, _, _, agree_no (fun w' _ => alike_nil2 _ w') (fun w' _ => ralike_nil2 _ w') (fun w' hb => requal_left (hr.past hb) (listOf_len _ _) mp m81)⟩
    · obtain rfl : N' = N := by omega
      exact agree_zones N8 hm hm' hz hz' hr hr'
theorem Agree.later {w w' : World} {x y p q : Value} {i e m : Bool} (h : Agree w x y p q i e m) (hb : Below w.heap.size w w') : Agree w' x y p q i e m :=
  ⟨fun w'' h' => h.i1 w'' (beyondD hb h'), fun w'' h' => h.i2 w'' (beyondD hb h'), fun w'' h' => h.e1 w'' (beyondD hb h'), fun w'' h' => h.e2 w'' (beyondD hb h'), fun w'' h' => h.m1 w'' (beyondD hb h'), fun w'' h' => h.m2 w'' (beyondD hb h')⟩
/-- What Universe tells, as values. -/
def UVal (w : World) (n : Int) (v : Value) : Prop := v = .pointer none ∨ ∃ (N b : Nat) (c : Row), n = N ∧ v = .pointer (some ⟨b, 0, none⟩) ∧ ZoneAt w b N c
theorem uval_of {w : World} {n : Int} {x : Ending} (h : UOut w n x) : ∃ v e, x = .returned (.tuple #[v, .int .i64 e]) ∧ UVal w n v := by
  rcases h with ⟨e, rfl⟩ | ⟨N, b, c, rfl, rfl, hz⟩
  · exact ⟨_, e, rfl, .inl rfl⟩
  · exact ⟨_, 0, rfl, .inr ⟨N, b, c, rfl, rfl, hz⟩⟩
theorem unlike_of {w : World} {n n' : Int} {vx vp vu : Value} (h : Pair w n vx vp) (hu : UVal w n' vu) (hn : ∀ N : Nat, n = N → N ≤ 8 → ¬ n' = n) : Unlike w vx vu := by
  rcases h with ⟨rfl, rfl⟩ | ⟨N, b, r, c, rfl, N8, rfl, rfl, hz, hr, hm⟩
  · exact fun w' _ => alike_nil _ w'
  · rcases hu with rfl | ⟨N', b', c', rfl, rfl, hz'⟩
    · exact fun w' _ => alike_nil2 _ w'
    · intro w' hb
      have := alike_raw b b' N N' w' (hz.past hb).clocks (hz'.past hb).clocks
      have e : ((N : Int) == (N' : Int)) = false := by
        have := hn N rfl N8
        simp
        omega
      rw [e] at this
      exact this
namespace dbmCompares
set_option maxHeartbeats 4000000 in
theorem walk (n : Int) (hn : (Lit.int .i64 n).wf = true) (v : Value) (l : List Int) (v' : Value) (l' : List Int) (w : World) (hS : SliceAt w v l) (wf : ∀ z ∈ l, (Lit.int .i32 z).wf = true) (hby : l.length * 4 ≤ 140737488355328) (hnil : ∀ {c}, v = .slice none 0 c → c = 0) (hS' : SliceAt w v' l') (wf' : ∀ z ∈ l', (Lit.int .i32 z).wf = true) (hby' : l'.length * 4 ≤ 140737488355328) (hnil' : ∀ {c}, v' = .slice none 0 c → c = 0) :
    Calls Try.prog 4 #[.int .i64 n, v, v'] w fun e w' => e = .returned (.bool true) ∧ Below w.heap.size w w' := by
  have H1 := hideD (both_any n v l w hS (wf_list wf) (by omega))
  have H2 : Hid (∀ w', Below w.heap.size w w' → Calls Try.prog 5 #[.int .i64 n, v'] w' fun x w'' => BothOut w'' w'.heap.size n x ∧ Below w'.heap.size w' w'') := fun w' hb => both_any n v' l' w' (hS'.later hb) (wf_list wf') (by omega)
  clear hS wf hby hnil hS' wf' hby' hnil' hn
  go_enter Try.func4, Try.ntmps4
  go_wp2_with fail
  refine H1.out.mono ?_
  rintro x w1 ⟨hx, hb1⟩
  obtain ⟨vx, vp, rfl, px⟩ := pair_of hx
  have P1 := hideD px
  have C2 := hideD (H2.out _ hb1)
  have B1 := hideD hb1
  clear hx px hb1 H1 H2
  go_wp2_with fail
  refine C2.out.mono ?_
  rintro x w2 ⟨hx, hb2⟩
  obtain ⟨vy, vq, rfl, py⟩ := pair_of hx
  have P2 := hideD (P1.out.past hb2)
  have Q2 := hideD py
  have B2 := hideD (beyondD B1.out hb2)
  clear hx py hb2 C2 P1 B1
  go_wp2_with fail
  refine (universe_out _ _).mono ?_
  rintro x w3 ⟨hx, hb3⟩
  obtain ⟨vu, e0, rfl, pu⟩ := uval_of hx
  have P3 := hideD (P2.out.past hb3)
  have Q3 := hideD (Q2.out.past hb3)
  have B3 := hideD (beyondD B2.out hb3)
  have U3 : Hid (Unlike w3 vx vu) := unlike_of P3.out pu (fun N h1 h2 => by
    subst h1
    first | (rw [IntKind.wrap_i64]; omega) | (unfold wrap64; omega) | omega)
  obtain ⟨i, e, m, ag⟩ := agree_pairs P3.out Q3.out
  have AG := hideD ag
  clear hx pu hb3 P2 Q2 B2 P3 Q3 ag
  go_wp2_with fail
  refine (live_any _).mono ?_
  rintro x w4 ⟨rfl, hb⟩
  have A4 := hideD (AG.out.later hb)
  have U4 := hideD (U3.out.later hb)
  have B4 := hideD (beyondD B3.out hb)
  have C := hideD (A4.out.i1 _ (Below.refl _ _))
  clear hb AG U3 B3
  go_wp2_with fail
  refine C.out.mono ?_
  rintro x w5 ⟨rfl, hb⟩
  have A5 := hideD (A4.out.later hb)
  have U5 := hideD (U4.out.later hb)
  have B5 := hideD (beyondD B4.out hb)
  have C' := hideD (A5.out.i2 _ (Below.refl _ _))
  clear hb A4 U4 B4 C
  go_wp2_with fail
  refine C'.out.mono ?_
  rintro x w6 ⟨rfl, hb⟩
  have A6 := hideD (A5.out.later hb)
  have U6 := hideD (U5.out.later hb)
  have B6 := hideD (beyondD B5.out hb)
  have C := hideD (A6.out.e1 _ (Below.refl _ _))
  clear hb A5 U5 B5 C'
  go_wp2_with fail
  refine C.out.mono ?_
  rintro x w7 ⟨rfl, hb⟩
  have A7 := hideD (A6.out.later hb)
  have U7 := hideD (U6.out.later hb)
  have B7 := hideD (beyondD B6.out hb)
  have C' := hideD (A7.out.e2 _ (Below.refl _ _))
  clear hb A6 U6 B6 C
  go_wp2_with fail
  refine C'.out.mono ?_
  rintro x w8 ⟨rfl, hb⟩
  have A8 := hideD (A7.out.later hb)
  have U8 := hideD (U7.out.later hb)
  have B8 := hideD (beyondD B7.out hb)
  have C := hideD (A8.out.m1 _ (Below.refl _ _))
  clear hb A7 U7 B7 C'
  go_wp2_with fail
  refine C.out.mono ?_
  rintro x w9 ⟨rfl, hb⟩
  have A9 := hideD (A8.out.later hb)
  have U9 := hideD (U8.out.later hb)
  have B9 := hideD (beyondD B8.out hb)
  have C' := hideD (A9.out.m2 _ (Below.refl _ _))
  clear hb A8 U8 B8 C
  go_wp2_with fail
  refine C'.out.mono ?_
  rintro x w10 ⟨rfl, hb⟩
  have U10 := hideD (U9.out.later hb)
  have B10 := hideD (beyondD B9.out hb)
  have C := hideD (includes_no _ _ _ U10.out)
  clear hb A9 U9 B9 C'
  go_wp2_with fail
  refine C.out.mono ?_
  rintro x w11 ⟨rfl, hb⟩
  have U11 := hideD (U10.out.later hb)
  have B11 := hideD (beyondD B10.out hb)
  have C' := hideD (equal_no _ _ _ U11.out)
  clear hb U10 B10 C
  go_wp2_with fail
  refine C'.out.mono ?_
  rintro x w12 ⟨rfl, hb⟩
  have U12 := hideD (U11.out.later hb)
  have B12 := hideD (beyondD B11.out hb)
  have C := hideD (meets_no _ _ _ U12.out)
  clear hb U11 B11 C'
  go_wp2_with fail
  refine C.out.mono ?_
  rintro x w13 ⟨rfl, hb⟩
  go_wp2_with fail
  go_ret
  exact ⟨rfl, beyondD B12.out hb⟩
end dbmCompares
end Go.Proofs.Ytbcfaepmhlanjaa
