/-
  isName of the statements; the walk of ExprUnlike.
-/
import Derived.Test.YtmnhbokiibaopaaDoorUe
import Derived.Test.YtmnhbokiibaopaaDoorQh
namespace Go.Proofs.YtmnhbokiibaopaaDoor
open Go.RowKit
set_option linter.unusedVariables false
def okC (i : Nat) (c : UInt8) : Prop := (97 ≤ c.toNat ∧ c.toNat ≤ 122) ∨ (65 ≤ c.toNat ∧ c.toNat ≤ 90) ∨ (i ≠ 0 ∧ ((48 ≤ c.toNat ∧ c.toNat ≤ 57) ∨ c.toNat = 95))
theorem name_ok {s : ByteArray} (h : ∀ i (hi : i < s.size), okC i s[i]) (h0 : 0 < s.size) (ht : ¬ s = str [116, 114, 117, 101]) : NameOk s := by
  have hl : s.data.toList.length = s.size := by simp
  have hg : ∀ i (hi : i < s.size), s.data.toList[i]'(by rw [hl]; exact hi) = s[i] := fun i hi => by simp; rfl
  refine ⟨fun c hc => ?_, ?_, fun q => ht ?_⟩
  · obtain ⟨i, hi, rfl⟩ := List.getElem_of_mem hc
    have hi' : i < s.size := by rw [← hl]; exact hi
    rw [hg i hi']
    have := h i hi'
    generalize s[i] = c at *
    unfold okC at this
    refine ⟨?_, ?_, ?_⟩ <;> (rintro rfl; simp at this)
  · cases e : s.data.toList with
    | nil => rw [e] at hl; simp at hl; omega
    | cons c r =>
      refine ⟨c, r, rfl, ?_⟩
      have h1 := h 0 h0
      rw [← hg 0 h0] at h1
      simp only [e, List.getElem_cons_zero] at h1
      unfold okC at h1
      omega
  · rw [← str_back s, q]
    rfl
/-- What isName tells. -/
def NmA (s : ByteArray) (e : Ending) : Prop := ∃ r : Bool, e = .returned (.bool r) ∧ (r = true → NameOk s)
set_option maxRecDepth 100000 in
set_option maxHeartbeats 2000000 in
theorem isname_any (s : ByteArray) (w : World) (hs : s.size ≤ 140737488355328) : Calls Tryd.prog 37 #[.string s] w fun e w' => NmA s e ∧ Below w.heap.size w w' := by
  have B := hideR (Below.refl w.heap.size w)
  go_enter Tryd.func37, Tryd.ntmps37
  go_wp2_with fail
  go_loopw [3] (fun i wr => ∃ (k : Nat), k ≤ s.size ∧ i = .int .i64 k ∧ Hid (Below w.heap.size w wr ∧ ∀ i (hi : i < s.size), i < k → okC i s[i])) (fun i _ => s.size - (intOf i).toNat)
  case atStart => exact ⟨0, by omega, rfl, B.out, fun i hi h => absurd h (Nat.not_lt_zero _)⟩
  case round =>
    obtain ⟨k, hk, rfl, E⟩ := hrel
    have B1 := hideR E.out.1
    by_cases ck : k < s.size
    · have k0 : (0 : Int) ≤ (k : Int) := by omega
      have k1 : (k : Int) < (s.size : Int) := by omega
      have e1 : IntKind.i64.wrap ((k : Int) + 1) = (k : Int) + 1 := by rw [IntKind.wrap_i64]; omega
      have NX : Hid (okC k s[k] → ∀ i (hi : i < s.size), i < k + 1 → okC i s[i]) := fun h i hi hik => by
        by_cases q : i = k
        · subst q; exact h
        · exact E.out.2 i hi (by omega)
      clear E
      by_cases a1 : 97 ≤ s[k].toNat
      · by_cases a2 : s[k].toNat ≤ 122
        · have f0 : (97 : Int) ≤ (s[k].toNat : Int) := by omega
          have f1 : (s[k].toNat : Int) ≤ 122 := by omega
          have N2 := hideR (NX.out (.inl ⟨a1, a2⟩))
          clear NX
          go_wp2_with fail
          go_roundw
          case rel => exact ⟨k + 1, by omega, by go_num, B1.out, N2.out⟩
          case measure => first | (simp [intOf]; done) | (simp [intOf]; omega)
        · by_cases kz : k = 0
          · subst kz
            have f0 : (97 : Int) ≤ (s[0].toNat : Int) := by omega
            have f1 : ¬ (s[0].toNat : Int) ≤ 122 := by omega
            have f2 : (65 : Int) ≤ (s[0].toNat : Int) := by omega
            have f3 : ¬ (s[0].toNat : Int) ≤ 90 := by omega
            go_wp2_with fail
            exact bodyPost_ret (v := .bool false) (by simp [results, Tryd.results37, go_sem]) rfl ⟨⟨false, rfl, fun h => by cases h⟩, B1.out⟩
          · have g7 : ((k : Int) == 0) = false := by simp; omega
            have f0 : (97 : Int) ≤ (s[k].toNat : Int) := by omega
            have f1 : ¬ (s[k].toNat : Int) ≤ 122 := by omega
            have f2 : (65 : Int) ≤ (s[k].toNat : Int) := by omega
            have f3 : ¬ (s[k].toNat : Int) ≤ 90 := by omega
            have f4 : ¬ (s[k].toNat : Int) < 48 := by omega
            have f5 : (57 : Int) < (s[k].toNat : Int) := by omega
            have g5 : ((s[k].toNat : Int) == 95) = false := by simp; omega
            have g6 : ((s[k].toNat : Int) != 95) = true := by simp; omega
            go_wp2_with fail
            exact bodyPost_ret (v := .bool false) (by simp [results, Tryd.results37, go_sem]) rfl ⟨⟨false, rfl, fun h => by cases h⟩, B1.out⟩
      · by_cases b1 : 65 ≤ s[k].toNat
        · by_cases b2 : s[k].toNat ≤ 90
          · have f0 : ¬ (97 : Int) ≤ (s[k].toNat : Int) := by omega
            have f1 : (65 : Int) ≤ (s[k].toNat : Int) := by omega
            have f2 : (s[k].toNat : Int) ≤ 90 := by omega
            have N2 := hideR (NX.out (.inr (.inl ⟨b1, b2⟩)))
            clear NX
            go_wp2_with fail
            go_roundw
            case rel => exact ⟨k + 1, by omega, by go_num, B1.out, N2.out⟩
            case measure => first | (simp [intOf]; done) | (simp [intOf]; omega)
          · by_cases kz : k = 0
            · subst kz
              have f0 : ¬ (97 : Int) ≤ (s[0].toNat : Int) := by omega
              have f1 : (65 : Int) ≤ (s[0].toNat : Int) := by omega
              have f2 : ¬ (s[0].toNat : Int) ≤ 90 := by omega
              go_wp2_with fail
              exact bodyPost_ret (v := .bool false) (by simp [results, Tryd.results37, go_sem]) rfl ⟨⟨false, rfl, fun h => by cases h⟩, B1.out⟩
            · by_cases c5 : s[k].toNat = 95
              · have g7 : ((k : Int) == 0) = false := by simp; omega
                have f0 : ¬ (97 : Int) ≤ (s[k].toNat : Int) := by omega
                have f1 : (65 : Int) ≤ (s[k].toNat : Int) := by omega
                have f2 : ¬ (s[k].toNat : Int) ≤ 90 := by omega
                have f3 : ¬ (s[k].toNat : Int) < 48 := by omega
                have f4 : (57 : Int) < (s[k].toNat : Int) := by omega
                have g5 : ((s[k].toNat : Int) == 95) = true := by simp; omega
                have g6 : ((s[k].toNat : Int) != 95) = false := by simp; omega
                have N2 := hideR (NX.out (.inr (.inr ⟨kz, .inr c5⟩)))
                clear NX
                go_wp2_with fail
                go_roundw
                case rel => exact ⟨k + 1, by omega, by go_num, B1.out, N2.out⟩
                case measure => first | (simp [intOf]; done) | (simp [intOf]; omega)
              · have g7 : ((k : Int) == 0) = false := by simp; omega
                have f0 : ¬ (97 : Int) ≤ (s[k].toNat : Int) := by omega
                have f1 : (65 : Int) ≤ (s[k].toNat : Int) := by omega
                have f2 : ¬ (s[k].toNat : Int) ≤ 90 := by omega
                have f3 : ¬ (s[k].toNat : Int) < 48 := by omega
                have f4 : (57 : Int) < (s[k].toNat : Int) := by omega
                have g5 : ((s[k].toNat : Int) == 95) = false := by simp; omega
                have g6 : ((s[k].toNat : Int) != 95) = true := by simp; omega
                go_wp2_with fail
                exact bodyPost_ret (v := .bool false) (by simp [results, Tryd.results37, go_sem]) rfl ⟨⟨false, rfl, fun h => by cases h⟩, B1.out⟩
        · by_cases kz : k = 0
          · subst kz
            have f0 : ¬ (97 : Int) ≤ (s[0].toNat : Int) := by omega
            have f1 : ¬ (65 : Int) ≤ (s[0].toNat : Int) := by omega
            go_wp2_with fail
            exact bodyPost_ret (v := .bool false) (by simp [results, Tryd.results37, go_sem]) rfl ⟨⟨false, rfl, fun h => by cases h⟩, B1.out⟩
          · by_cases c6 : s[k].toNat < 48
            · have g7 : ((k : Int) == 0) = false := by simp; omega
              have f0 : ¬ (97 : Int) ≤ (s[k].toNat : Int) := by omega
              have f1 : ¬ (65 : Int) ≤ (s[k].toNat : Int) := by omega
              have f2 : (s[k].toNat : Int) < 48 := by omega
              have g5 : ((s[k].toNat : Int) == 95) = false := by simp; omega
              have g6 : ((s[k].toNat : Int) != 95) = true := by simp; omega
              go_wp2_with fail
              exact bodyPost_ret (v := .bool false) (by simp [results, Tryd.results37, go_sem]) rfl ⟨⟨false, rfl, fun h => by cases h⟩, B1.out⟩
            · by_cases c7 : s[k].toNat ≤ 57
              · have g7 : ((k : Int) == 0) = false := by simp; omega
                have f0 : ¬ (97 : Int) ≤ (s[k].toNat : Int) := by omega
                have f1 : ¬ (65 : Int) ≤ (s[k].toNat : Int) := by omega
                have f2 : ¬ (s[k].toNat : Int) < 48 := by omega
                have f3 : ¬ (57 : Int) < (s[k].toNat : Int) := by omega
                have N2 := hideR (NX.out (.inr (.inr ⟨kz, .inl ⟨by omega, c7⟩⟩)))
                clear NX
                go_wp2_with fail
                go_roundw
                case rel => exact ⟨k + 1, by omega, by go_num, B1.out, N2.out⟩
                case measure => first | (simp [intOf]; done) | (simp [intOf]; omega)
              · have g7 : ((k : Int) == 0) = false := by simp; omega
                have f0 : ¬ (97 : Int) ≤ (s[k].toNat : Int) := by omega
                have f1 : ¬ (65 : Int) ≤ (s[k].toNat : Int) := by omega
                have f2 : ¬ (s[k].toNat : Int) < 48 := by omega
                have f3 : (57 : Int) < (s[k].toNat : Int) := by omega
                have g5 : ((s[k].toNat : Int) == 95) = false := by simp; omega
                have g6 : ((s[k].toNat : Int) != 95) = true := by simp; omega
                go_wp2_with fail
                exact bodyPost_ret (v := .bool false) (by simp [results, Tryd.results37, go_sem]) rfl ⟨⟨false, rfl, fun h => by cases h⟩, B1.out⟩
    · have k1 : ¬ (k : Int) < (s.size : Int) := by omega
      have AL : Hid (∀ i (hi : i < s.size), okC i s[i]) := fun i hi => E.out.2 i hi (by omega)
      clear E
      by_cases c0 : 0 < s.size
      · have d0 : (0 : Int) < (s.size : Int) := by omega
        by_cases ct : s = str [116, 114, 117, 101]
        · subst ct
          go_wp2_with fail
          all_goals exact bodyPost_ret (v := .bool false) (by simp [results, Tryd.results37, go_sem]) rfl ⟨⟨false, rfl, fun h => by cases h⟩, B1.out⟩
        · have NO := hideR (name_ok AL.out c0 ct)
          go_wp2_with fail
          all_goals exact bodyPost_ret (v := .bool (!(s.toList == [116, 114, 117, 101]))) (by simp [results, Tryd.results37, go_sem]) rfl ⟨⟨_, rfl, fun _ => NO.out⟩, B1.out⟩
      · have d0 : ¬ (0 : Int) < (s.size : Int) := by omega
        go_wp2_with fail
        all_goals exact bodyPost_ret (v := .bool false) (by simp [results, Tryd.results37, go_sem]) rfl ⟨⟨false, rfl, fun h => by cases h⟩, B1.out⟩
end Go.Proofs.YtmnhbokiibaopaaDoor
