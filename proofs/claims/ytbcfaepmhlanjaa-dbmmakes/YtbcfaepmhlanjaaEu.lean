/-
  The document's Meets; the walk of the statement DbmCompares.
-/
import Derived.Test.YtbcfaepmhlanjaaEt
namespace Go.Proofs.Ytbcfaepmhlanjaa
open Go.RowKit
set_option linter.unusedVariables false
set_option maxRecDepth 100000
theorem RZone_head {w : World} {B b n m : Nat} {e : Row} (h : RZone w B b n (listOf e m)) (hm : 0 < m) :
    Calls Try.prog 17 #[.pointer (some ⟨b, 0, none⟩)] w fun x w' => x = .returned (.bool (e 0 != 1)) ∧ w' = w := by
  have := rempty_any h (by rw [listOf_len]; exact hm)
  rw [listOf_get _ _ _ hm] at this
  exact this
set_option maxHeartbeats 2000000 in
theorem rmeets_any {w : World} {B b o n m : Nat} {c d : Row} (h1 : RZone w B b n (listOf c m)) (h2 : RZone w B o n (listOf d m)) (hn : n ≤ 8) (hm : m = (n + 1) * (n + 1)) (hc : Made n c) (hd : Made n d) :
    Calls Try.prog 25 #[.pointer (some ⟨b, 0, none⟩), .pointer (some ⟨o, 0, none⟩)] w fun e w' => e = .returned (.bool (meetsOf (zoneR n (tgAll n (listOf (minR c d) m) m (startR n (n + 1) 0))))) ∧ Below w.heap.size w w' := by
  have hp : 0 < m := by rw [hm]; exact Nat.mul_pos (by omega) (by omega)
  have HA := hideD (ralike_same h1 h2)
  have HC : Hid (∀ k, Calls Try.prog 43 #[.pointer (some ⟨b, 0, none⟩), .pointer (some ⟨o, 0, none⟩)] (w.drewN k) fun e w' => (∃ B', RZoneOut w' B' n e ((zoneR n (tgAll n (listOf (minR c d) m) m (startR n (n + 1) 0))).map (fun c => listOf c m))) ∧ Below (w.drewN k).heap.size (w.drewN k) w') := fun k => rcommon_any (h1.past (below_draw w k)) (h2.past (below_draw w k)) hn hm hc hd
  clear h1 h2 hm hc hd
  generalize zoneR n (tgAll n (listOf (minR c d) m) m (startR n (n + 1) 0)) = Z at *
  go_enter Try.func25, Try.ntmps25
  go_wp2_with fail
  refine HA.out.mono ?_
  rintro e w1 ⟨rfl, k, rfl⟩
  have H := hideD (HC.out k)
  have B1 := hideD (below_draw w k)
  generalize w.drewN k = w1 at *
  clear HC HA
  go_wp2_with fail
  refine H.out.mono ?_
  rintro e w2 ⟨⟨B', hz⟩, hb⟩
  have B2 := hideD (beyondD B1.out hb)
  clear H hb B1
  cases Z with
  | none =>
    obtain rfl := hz
    go_wp2_with fail
    go_ret
    exact ⟨rfl, B2.out⟩
  | some f =>
    obtain ⟨b', rfl, hz⟩ := hz
    have HE := hideD (RZone_head hz hp)
    have HM : Hid (meetsOf (some f) = !(f 0 != 1)) := rfl
    generalize (f 0 != 1) = y at *
    clear hz
    cases y with
    | true =>
      go_wp2_with fail
      refine HE.out.mono ?_
      rintro e w3 ⟨rfl, rfl⟩
      go_wp2_with fail
      go_ret
      exact ⟨by rw [HM.out]; rfl, B2.out⟩
    | false =>
      go_wp2_with fail
      refine HE.out.mono ?_
      rintro e w3 ⟨rfl, rfl⟩
      go_wp2_with fail
      go_ret
      exact ⟨by rw [HM.out]; rfl, B2.out⟩
theorem SliceAt.later {w w' : World} {v : Value} {l : List Int} (h : SliceAt w v l) (hb : Below w.heap.size w w') : SliceAt w' v l := by
  rcases h with h | ⟨b, off, cap, rfl, hc⟩
  · exact .inl h
  · exact .inr ⟨b, off, cap, rfl, fun j hj => kc _ _ hb (hc j hj)⟩
theorem wf_list {l : List Int} (wf : ∀ z ∈ l, (Lit.int .i32 z).wf = true) : ∀ j, j < l.length → -2147483648 ≤ l.getD j 0 ∧ l.getD j 0 ≤ 2147483647 := fun j hj => by
  have e : l.getD j 0 = l[j] := by simp [List.getD, hj]
  rw [e]
  exact bounds_i32 (wf _ (List.getElem_mem hj))
/-- What Universe tells: an error, or a zone of so many clocks. -/
def UOut (w' : World) (n : Int) (x : Ending) : Prop := (∃ e, x = errOf e) ∨ ∃ (N b : Nat) (c : Row) , n = N ∧ x = .returned (.tuple #[.pointer (some ⟨b, 0, none⟩), .int .i64 0]) ∧ ZoneAt w' b N c
theorem universe_out (n : Int) (w : World) : Calls Try.prog 10 #[.int .i64 n] w fun x w' => UOut w' n x ∧ Below w.heap.size w w' := by
  by_cases h : 0 ≤ n ∧ n ≤ 8
  · obtain ⟨N, rfl⟩ := Int.eq_ofNat_of_zero_le h.1
    refine (universe_any N w (by omega)).mono ?_
    rintro x w' ⟨hb, hz⟩
    cases ez : zoneR N (startR N (N + 1) 0) with
    | none =>
      rw [ez] at hz
      exact ⟨.inl ⟨10, hz⟩, hb⟩
    | some c =>
      rw [ez] at hz
      obtain ⟨b, -, rfl, hz⟩ := hz
      exact ⟨.inr ⟨N, b, c, rfl, rfl, hz⟩, hb⟩
  · refine (universe_clock n w h).mono ?_
    rintro x w' ⟨rfl, rfl⟩
    exact ⟨.inl ⟨12, rfl⟩, Below.refl _ _⟩
/-- The program and the document say the same of two. -/
structure Agree (w : World) (x y p q : Value) (i e m : Bool) : Prop where
  i1 : ∀ w', Below w.heap.size w w' → Calls Try.prog 20 #[x, y] w' fun r w'' => r = .returned (.bool i) ∧ Below w'.heap.size w' w''
  i2 : ∀ w', Below w.heap.size w w' → Calls Try.prog 21 #[p, q] w' fun r w'' => r = .returned (.bool i) ∧ Below w'.heap.size w' w''
  e1 : ∀ w', Below w.heap.size w w' → Calls Try.prog 22 #[x, y] w' fun r w'' => r = .returned (.bool e) ∧ Below w'.heap.size w' w''
  e2 : ∀ w', Below w.heap.size w w' → Calls Try.prog 23 #[p, q] w' fun r w'' => r = .returned (.bool e) ∧ Below w'.heap.size w' w''
  m1 : ∀ w', Below w.heap.size w w' → Calls Try.prog 24 #[x, y] w' fun r w'' => r = .returned (.bool m) ∧ Below w'.heap.size w' w''
  m2 : ∀ w', Below w.heap.size w w' → Calls Try.prog 25 #[p, q] w' fun r w'' => r = .returned (.bool m) ∧ Below w'.heap.size w' w''
theorem Unlike.later {w w' : World} {u v : Value} (h : Unlike w u v) (hb : Below w.heap.size w w') : Unlike w' u v := fun w'' hb' => h w'' (beyondD hb hb')
theorem RUnlike.later {w w' : World} {u v : Value} (h : RUnlike w u v) (hb : Below w.heap.size w w') : RUnlike w' u v := fun w'' hb' => h w'' (beyondD hb hb')
theorem agree_no {w : World} {x y p q : Value} (h : Unlike w x y) (h' : RUnlike w p q) (he : ∀ w', Below w.heap.size w w' → Calls Try.prog 23 #[p, q] w' fun r w'' => r = .returned (.bool false) ∧ Below w'.heap.size w' w'') : Agree w x y p q false false false :=
  ⟨fun w' hb => includes_no x y w' (h.later hb), fun w' hb => rincludes_no p q w' (h'.later hb), fun w' hb => equal_no x y w' (h.later hb), he, fun w' hb => meets_no x y w' (h.later hb), fun w' hb => rmeets_no p q w' (h'.later hb)⟩
theorem agree_zones {w : World} {B b o r s n : Nat} {c d : Row} (hn : n ≤ 8) (hc : Made n c) (hd : Made n d) (hz : ZoneAt w b n c) (hy : ZoneAt w o n d) (h1 : RZone w B r n (listOf c ((n + 1) * (n + 1)))) (h2 : RZone w B s n (listOf d ((n + 1) * (n + 1)))) :
    ∃ i e m, Agree w (.pointer (some ⟨b, 0, none⟩)) (.pointer (some ⟨o, 0, none⟩)) (.pointer (some ⟨r, 0, none⟩)) (.pointer (some ⟨s, 0, none⟩)) i e m := by
  have mp : 0 < (n + 1) * (n + 1) := Nat.mul_pos (by omega) (by omega)
  have m81 : (n + 1) * (n + 1) ≤ 81 := Nat.mul_le_mul (show n + 1 ≤ 9 by omega) (show n + 1 ≤ 9 by omega)
  refine ⟨rincB c d ((n + 1) * (n + 1)), scUpto (listOf c ((n + 1) * (n + 1))) (listOf d ((n + 1) * (n + 1))) ((n + 1) * (n + 1)), meetsOf (zoneR n (tgAll n (listOf (minR c d) ((n + 1) * (n + 1))) ((n + 1) * (n + 1)) (startR n (n + 1) 0))), ?_⟩
  constructor
  · intro w' hb
    rw [inc_same hc hd mp]
    cases e : decide (d 0 < 1)
    · rw [Bool.false_or]
      exact includes_some b o n c d w' (hz.past hb) (hy.past hb) hn e
    · rw [Bool.true_or]
      exact includes_empty b o n c d w' (hz.past hb) (hy.past hb) hn e
  · exact fun w' hb => rincludes_any (h1.past hb) (h2.past hb) mp m81
  · intro w' hb
    rw [← equal_same hc hd rfl m81]
    refine (equal_any b o n c d w' (hz.past hb) (hy.past hb)).mono ?_
    rintro e w'' ⟨rfl, k, rfl⟩
    exact ⟨rfl, below_draw _ _⟩
  · exact fun w' hb => requal_any (h1.past hb) (h2.past hb) mp m81
  · intro w' hb
    have e := meets_same n (tgAll n (listOf (minR c d) ((n + 1) * (n + 1))) ((n + 1) * (n + 1)) (startR n (n + 1) 0)) (start_diag n _ _ rfl (fun j hj => by
      rw [listOf_get _ _ _ hj]
      have := hc.range j
      have := hd.range j
      unfold minR
      omega))
    rw [← e, ← tgAll_two n _ c d _ rfl (fun j => (hc.range j).2) (fun j => (hd.range j).2)]
    exact meets_any b o n _ c d w' (hz.past hb) (hy.past hb) hn rfl hc.range hd.range
  · exact fun w' hb => rmeets_any (h1.past hb) (h2.past hb) hn rfl hc hd
end Go.Proofs.Ytbcfaepmhlanjaa
