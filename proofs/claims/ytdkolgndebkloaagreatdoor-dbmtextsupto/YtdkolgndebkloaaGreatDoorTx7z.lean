/-
  The document's limit: a term of a text.
-/
import Derived.Test.YtdkolgndebkloaaGreatDoorTx6z
import Derived.Test.YtdkolgndebkloaaGreatDoorZg
namespace Go.Proofs.YtdkolgndebkloaaGreatDoor
open Go.RowKit Go.Shelf
set_option linter.unusedVariables false
set_option maxRecDepth 100000
theorem get_opt (S : ByteArray) (k : Nat) (h : k < S.size) : S.data.toList[k]? = some S[k] := by
  have h' : k < S.data.toList.length := by rw [len_of]; exact h
  rw [List.getElem?_eq_getElem h']
  rfl
/-- The first place of a sign, or the end. -/
def FirstAt (x : UInt8) (s : List UInt8) (k : Nat) : Prop := k ≤ s.length ∧ (∀ j, j < k → s[j]? ≠ some x) ∧ (k < s.length → s[k]? = some x)
theorem term_first {n : Nat} {x : Cell3} (hn : n ≤ 8) (h : Good3 n x) {k : Nat} (hf : FirstAt 60 (termT x) k) : k = 5 := by
  obtain ⟨h1, h2, h3⟩ := hf
  rw [termT_form hn h] at h1 h2 h3
  obtain ⟨r, e⟩ := printS_head x.2.2 h.2.2
  have d1 := (dig_ne x.1 (by have := h.1; omega)).2.1
  have d2 := (dig_ne x.2.1 (by have := h.2.1; omega)).2.1
  rw [e] at h1 h2 h3
  by_cases c : 5 < k
  · exact absurd (by simp) (h2 5 c)
  · by_cases c2 : k < 5
    · have := h3 (by simp; omega)
      match k, c2 with
      | 0, _ => simp at this
      | 1, _ => simp at this; exact absurd this d1
      | 2, _ => simp at this
      | 3, _ => simp at this
      | 4, _ => simp at this; exact absurd this d2
    · omega
theorem dig_val : ∀ i : Nat, i ≤ 8 → (((48 + i.toUInt8 : UInt8).toNat : Nat) : Int) - 48 = i
  | 0, _ => by decide
  | 1, _ => by decide
  | 2, _ => by decide
  | 3, _ => by decide
  | 4, _ => by decide
  | 5, _ => by decide
  | 6, _ => by decide
  | 7, _ => by decide
  | 8, _ => by decide
theorem limit_no {s : List UInt8} {k : Nat} (hf : FirstAt 60 s k) (hk : k ≠ 5) : TermIs s 0 0 0 false :=
  ⟨fun h => (by cases h), fun n x hn hg e => by subst e; exact absurd (term_first hn hg hf) hk⟩
theorem limit_bad {s : List UInt8} (h : s[0]? ≠ some 120 ∨ s[2]? ≠ some 45 ∨ s[3]? ≠ some 120) : TermIs s 0 0 0 false :=
  ⟨fun h => (by cases h), fun n x hn hg e => by
    subst e
    rw [termT_form hn hg] at h
    simp at h⟩
theorem limit_is {s : List UInt8} {a d : UInt8} {b er : Int} (h1 : s[1]? = some a) (h2 : s[4]? = some d) (hp : ParseIs (s.drop 5) b er) : TermIs s ((a.toNat : Int) - 48) ((d.toNat : Int) - 48) b (decide (er = 0)) := by
  refine ⟨fun h => parseIs_right hp (of_decide_eq_true h), fun n x hn hg e => ?_⟩
  subst e
  rw [termT_form hn hg] at h1 h2 hp
  simp at h1 h2 hp
  obtain ⟨a5, a6⟩ := parseIs_print (by have := (fin_iff x.2.2).1 hg.2.2; exact decide_eq_true (.inr this)) hp
  subst h1 h2
  exact ⟨dig_val _ (by have := hg.1; omega), dig_val _ (by have := hg.2.1; omega), a5, by simp [a6]⟩
def LimOut (s : List UInt8) (e : Ending) : Prop := ∃ (i j b : Int) (ok : Bool), e = .returned (.tuple #[.agg #[.int .i64 i, .int .i64 j, .int .i32 b], .bool ok]) ∧ Hid (TermIs s i j b ok)
set_option maxHeartbeats 4000000 in
theorem rlimit_any (S : ByteArray) (w : World) (hlim : S.size ≤ 1048576) (ht : Pow w) :
    Calls Tryz.prog 21 #[.string S] w fun e w' => LimOut S.data.toList e ∧ Hid (Below w.heap.size w w') := by
  have B0 := hideD (below_one w (.cells #[.int .i64 0, .int .i64 0, .int .i32 0] 49))
  have ht0 := hideD (pow_later ht B0.out)
  have GO := hideD (get_opt S)
  have LN : Hid (S.data.toList.length = S.size) := len_of S
  have LK : Hid (∀ k, FirstAt 60 S.data.toList k → k ≠ 5 → TermIs S.data.toList 0 0 0 false) := fun k h1 h2 => limit_no h1 h2
  have LB := hideD (limit_bad (s := S.data.toList))
  have LI : Hid (∀ (a d : UInt8) (b er : Int), S.data.toList[1]? = some a → S.data.toList[4]? = some d → ParseIs (S.data.toList.drop 5) b er → TermIs S.data.toList ((a.toNat : Int) - 48) ((d.toNat : Int) - 48) b (decide (er = 0))) := fun a d b er h1 h2 h3 => limit_is h1 h2 h3
  have HD : Hid ((S.extract 5 S.size).data.toList = S.data.toList.drop 5) := drop_of S 5
  have HP := hideD (fun w => rparse_any (S.extract 5 S.size) w (by simp; omega))
  rw [HD.out] at HP
  have hs : (S.size : Int) ≤ 1048576 := by omega
  clear ht HD
  generalize S.data.toList = l at *
  go_enter Tryz.func21, Tryz.ntmps21
  go_wp2_with fail
  have a0 : (w.alloc (.cells #[.int .i64 0, .int .i64 0, .int .i32 0] 49)).cell? ⟨w.heap.size, 0, none⟩ = some (.int .i64 0) := by simp [go_sem]
  have a1 : (w.alloc (.cells #[.int .i64 0, .int .i64 0, .int .i32 0] 49)).cell? ⟨w.heap.size, 1, none⟩ = some (.int .i64 0) := by simp [go_sem]
  have a2 : (w.alloc (.cells #[.int .i64 0, .int .i64 0, .int .i32 0] 49)).cell? ⟨w.heap.size, 2, none⟩ = some (.int .i32 0) := by simp [go_sem]
  have b0 : (w.alloc (.cells #[.int .i64 0, .int .i64 0, .int .i32 0] 49)).frozen? ⟨w.heap.size, 0, none⟩ = false := by simp [go_sem]
  have b1 : (w.alloc (.cells #[.int .i64 0, .int .i64 0, .int .i32 0] 49)).frozen? ⟨w.heap.size, 1, none⟩ = false := by simp [go_sem]
  have b2 : (w.alloc (.cells #[.int .i64 0, .int .i64 0, .int .i32 0] 49)).frozen? ⟨w.heap.size, 2, none⟩ = false := by simp [go_sem]
  have BS : Hid (∀ x y z, Below w.heap.size w ((((w.alloc (.cells #[.int .i64 0, .int .i64 0, .int .i32 0] 49)).setCell ⟨w.heap.size, 0, none⟩ x).setCell ⟨w.heap.size, 1, none⟩ y).setCell ⟨w.heap.size, 2, none⟩ z)) := fun x y z => ((B0.out.setCell (p := ⟨w.heap.size, 0, none⟩) (Nat.le_refl _) _).setCell (p := ⟨w.heap.size, 1, none⟩) (Nat.le_refl _) _).setCell (p := ⟨w.heap.size, 2, none⟩) (Nat.le_refl _) _
  generalize w.alloc (.cells #[.int .i64 0, .int .i64 0, .int .i32 0] 49) = W at *
  go_loopw [4] (fun t wr => ∃ k : Nat, k ≤ S.size ∧ t = .int .i64 k ∧ wr = W ∧ Hid (∀ j, j < k → l[j]? ≠ some 60)) (fun t _ => S.size - (intOf t).toNat)
  case atStart => exact ⟨0, by omega, rfl, rfl, fun j hj => (by omega)⟩
  case round =>
    obtain ⟨k, hk, rfl, rfl, hj⟩ := hrel
    by_cases c : k < S.size
    · have i0 : (0 : Int) ≤ (k : Int) := by omega
      have i1 : (k : Int) < (S.size : Int) := by omega
      by_cases x : (S[k].toNat : Int) = 60
      · have FA : Hid (FirstAt 60 l k) := ⟨by have := LN.out; omega, hj.out, fun _ => by
          rw [GO.out k c]
          congr 1
          exact UInt8.toNat_inj.1 (by show _ = 60; omega)⟩
        clear hj
        by_cases k5 : k = 5
        · subst k5
          have LB' := LB
          have h0 : 0 < S.size := by omega
          have h1 : 1 < S.size := by omega
          have h2 : 2 < S.size := by omega
          have h3 : 3 < S.size := by omega
          have h4 : 4 < S.size := by omega
          have j0 : (0 : Int) < (S.size : Int) := by omega
          have j1 : (1 : Int) < (S.size : Int) := by omega
          have j2 : (2 : Int) < (S.size : Int) := by omega
          have j3 : (3 : Int) < (S.size : Int) := by omega
          have j4 : (4 : Int) < (S.size : Int) := by omega
          have j5 : (5 : Int) ≤ (S.size : Int) := by omega
          have NE : Hid (∀ (j : Nat) (hj : j < S.size) (x : UInt8), ¬ (S[j].toNat : Int) = (x.toNat : Int) → l[j]? ≠ some x) := fun j hj x h e => h (by rw [GO.out j hj] at e; injection e with e; rw [e])
          go_upto_region 4 with (fail)
          clear FA
          by_cases t0 : (S[0].toNat : Int) = 120
          · by_cases t2 : (S[2].toNat : Int) = 45
            · by_cases t3 : (S[3].toNat : Int) = 120
              · have L1 := hideD (GO.out 1 h1)
                have L4 := hideD (GO.out 4 h4)
                have u1 : (S[1].toNat : Int) ≤ 255 := by have := S[1].toNat_lt; omega
                have u4 : (S[4].toNat : Int) ≤ 255 := by have := S[4].toNat_lt; omega
                have v1 : IntKind.i64.wrap (S[1].toNat : Int) = (S[1].toNat : Int) := by rw [IntKind.wrap_i64]; omega
                have v4 : IntKind.i64.wrap (S[4].toNat : Int) = (S[4].toNat : Int) := by rw [IntKind.wrap_i64]; omega
                have y1 : IntKind.i64.wrap ((S[1].toNat : Int) - 48) = (S[1].toNat : Int) - 48 := by rw [IntKind.wrap_i64]; omega
                have y4 : IntKind.i64.wrap ((S[4].toNat : Int) - 48) = (S[4].toNat : Int) - 48 := by rw [IntKind.wrap_i64]; omega
                clear u1 u4
                go_wp2_with fail
                refine (HP.out _ ht0.out).mono ?_
                rintro e w1 ⟨b, er, rfl, hp, hb⟩
                have F := hideD (LI.out S[1] S[4] b er L1.out L4.out hp)
                have B1 := hideD (beyondD B0.out hb)
                have f0 := kc _ _ hb a0
                have f1 := kc _ _ hb a1
                have f2 := kc _ _ hb a2
                have z0 := kf _ _ hb a0 b0
                have z1 := kf _ _ hb a1 b1
                have z2 := kf _ _ hb a2 b2
                have B3 : Hid (∀ x y z, Below w.heap.size w (((w1.setCell ⟨w.heap.size, 0, none⟩ x).setCell ⟨w.heap.size, 1, none⟩ y).setCell ⟨w.heap.size, 2, none⟩ z)) := fun x y z => ((B1.out.setCell (p := ⟨w.heap.size, 0, none⟩) (Nat.le_refl _) _).setCell (p := ⟨w.heap.size, 1, none⟩) (Nat.le_refl _) _).setCell (p := ⟨w.heap.size, 2, none⟩) (Nat.le_refl _) _
                have eo : decide (er = 0) = (er == 0) := by by_cases h : er = 0 <;> simp [h]
                rw [eo] at F
                clear hp hb L1 L4 LI HP LB LK B0 ht0 a0 a1 a2 b0 b1 b2 t0 t2 t3 NE LB'
                go_wp2_with fail
                go_region
                all_goals
                  go_wp2_with fail
                  exact bodyPost_ret (v := .tuple #[.agg #[.int .i64 ((S[1].toNat : Int) - 48), .int .i64 ((S[4].toNat : Int) - 48), .int .i32 b], .bool (er == 0)]) (by simp [results, Tryz.results21, go_sem, *]) rfl ⟨⟨_, _, _, _, rfl, F⟩, by show Below _ _ _; first | exact B3.out _ _ _ | exact (B3.out _ _ _).drew⟩
              · have F : Hid (TermIs l 0 0 0 false) := LB.out (.inr (.inr (NE.out 3 h3 120 t3)))
                go_wp2_with fail
                exact bodyPost_ret (v := .tuple #[.agg #[.int .i64 0, .int .i64 0, .int .i32 0], .bool false]) (by simp [results, Tryz.results21, go_sem, *]) rfl ⟨⟨_, _, _, _, rfl, F⟩, BS.out _ _ _⟩
            · have F : Hid (TermIs l 0 0 0 false) := LB.out (.inr (.inl (NE.out 2 h2 45 t2)))
              go_wp2_with fail
              exact bodyPost_ret (v := .tuple #[.agg #[.int .i64 0, .int .i64 0, .int .i32 0], .bool false]) (by simp [results, Tryz.results21, go_sem, *]) rfl ⟨⟨_, _, _, _, rfl, F⟩, BS.out _ _ _⟩
          · have F : Hid (TermIs l 0 0 0 false) := LB.out (.inl (NE.out 0 h0 120 t0))
            go_wp2_with fail
            exact bodyPost_ret (v := .tuple #[.agg #[.int .i64 0, .int .i64 0, .int .i32 0], .bool false]) (by simp [results, Tryz.results21, go_sem, *]) rfl ⟨⟨_, _, _, _, rfl, F⟩, BS.out _ _ _⟩
        · have F := hideD (LK.out k FA.out k5)
          have k6 : ¬ (k : Int) = 5 := by omega
          go_wp2_with fail
          exact bodyPost_ret (v := .tuple #[.agg #[.int .i64 0, .int .i64 0, .int .i32 0], .bool false]) (by simp [results, Tryz.results21, go_sem, *]) rfl ⟨⟨_, _, _, _, rfl, F⟩, BS.out _ _ _⟩
      · have nx : Hid (∀ j, j < k + 1 → l[j]? ≠ some 60) := fun j hjk => (by
          by_cases e : j = k
          · subst e
            rw [GO.out j c]
            intro e
            injection e with e
            rw [e] at x
            exact x rfl
          · exact hj.out j (by omega))
        go_wp2_with fail
        go_roundw
        case rel => exact ⟨k + 1, by omega, by go_num, trivial, nx⟩
        case measure => simp [intOf]; omega
    · have FA : Hid (FirstAt 60 l k) := ⟨by have := LN.out; omega, hj.out, fun h => by have := LN.out; omega⟩
      have i1 : ¬ (k : Int) < (S.size : Int) := by omega
      clear hj
      by_cases k5 : k = 5
      · subst k5
        have LB' := LB
        have h0 : 0 < S.size := by omega
        have h1 : 1 < S.size := by omega
        have h2 : 2 < S.size := by omega
        have h3 : 3 < S.size := by omega
        have h4 : 4 < S.size := by omega
        have j0 : (0 : Int) < (S.size : Int) := by omega
        have j1 : (1 : Int) < (S.size : Int) := by omega
        have j2 : (2 : Int) < (S.size : Int) := by omega
        have j3 : (3 : Int) < (S.size : Int) := by omega
        have j4 : (4 : Int) < (S.size : Int) := by omega
        have j5 : (5 : Int) ≤ (S.size : Int) := by omega
        have NE : Hid (∀ (j : Nat) (hj : j < S.size) (x : UInt8), ¬ (S[j].toNat : Int) = (x.toNat : Int) → l[j]? ≠ some x) := fun j hj x h e => h (by rw [GO.out j hj] at e; injection e with e; rw [e])
        go_upto_region 4 with (fail)
        clear FA
        by_cases t0 : (S[0].toNat : Int) = 120
        · by_cases t2 : (S[2].toNat : Int) = 45
          · by_cases t3 : (S[3].toNat : Int) = 120
            · have L1 := hideD (GO.out 1 h1)
              have L4 := hideD (GO.out 4 h4)
              have u1 : (S[1].toNat : Int) ≤ 255 := by have := S[1].toNat_lt; omega
              have u4 : (S[4].toNat : Int) ≤ 255 := by have := S[4].toNat_lt; omega
              have v1 : IntKind.i64.wrap (S[1].toNat : Int) = (S[1].toNat : Int) := by rw [IntKind.wrap_i64]; omega
              have v4 : IntKind.i64.wrap (S[4].toNat : Int) = (S[4].toNat : Int) := by rw [IntKind.wrap_i64]; omega
              have y1 : IntKind.i64.wrap ((S[1].toNat : Int) - 48) = (S[1].toNat : Int) - 48 := by rw [IntKind.wrap_i64]; omega
              have y4 : IntKind.i64.wrap ((S[4].toNat : Int) - 48) = (S[4].toNat : Int) - 48 := by rw [IntKind.wrap_i64]; omega
              clear u1 u4
              go_wp2_with fail
              refine (HP.out _ ht0.out).mono ?_
              rintro e w1 ⟨b, er, rfl, hp, hb⟩
              have F := hideD (LI.out S[1] S[4] b er L1.out L4.out hp)
              have B1 := hideD (beyondD B0.out hb)
              have f0 := kc _ _ hb a0
              have f1 := kc _ _ hb a1
              have f2 := kc _ _ hb a2
              have z0 := kf _ _ hb a0 b0
              have z1 := kf _ _ hb a1 b1
              have z2 := kf _ _ hb a2 b2
              have B3 : Hid (∀ x y z, Below w.heap.size w (((w1.setCell ⟨w.heap.size, 0, none⟩ x).setCell ⟨w.heap.size, 1, none⟩ y).setCell ⟨w.heap.size, 2, none⟩ z)) := fun x y z => ((B1.out.setCell (p := ⟨w.heap.size, 0, none⟩) (Nat.le_refl _) _).setCell (p := ⟨w.heap.size, 1, none⟩) (Nat.le_refl _) _).setCell (p := ⟨w.heap.size, 2, none⟩) (Nat.le_refl _) _
              have eo : decide (er = 0) = (er == 0) := by by_cases h : er = 0 <;> simp [h]
              rw [eo] at F
              clear hp hb L1 L4 LI HP LB LK B0 ht0 a0 a1 a2 b0 b1 b2 t0 t2 t3 NE LB'
              go_wp2_with fail
              go_region
              all_goals
                go_wp2_with fail
                exact bodyPost_ret (v := .tuple #[.agg #[.int .i64 ((S[1].toNat : Int) - 48), .int .i64 ((S[4].toNat : Int) - 48), .int .i32 b], .bool (er == 0)]) (by simp [results, Tryz.results21, go_sem, *]) rfl ⟨⟨_, _, _, _, rfl, F⟩, by show Below _ _ _; first | exact B3.out _ _ _ | exact (B3.out _ _ _).drew⟩
            · have F : Hid (TermIs l 0 0 0 false) := LB.out (.inr (.inr (NE.out 3 h3 120 t3)))
              go_wp2_with fail
              exact bodyPost_ret (v := .tuple #[.agg #[.int .i64 0, .int .i64 0, .int .i32 0], .bool false]) (by simp [results, Tryz.results21, go_sem, *]) rfl ⟨⟨_, _, _, _, rfl, F⟩, BS.out _ _ _⟩
          · have F : Hid (TermIs l 0 0 0 false) := LB.out (.inr (.inl (NE.out 2 h2 45 t2)))
            go_wp2_with fail
            exact bodyPost_ret (v := .tuple #[.agg #[.int .i64 0, .int .i64 0, .int .i32 0], .bool false]) (by simp [results, Tryz.results21, go_sem, *]) rfl ⟨⟨_, _, _, _, rfl, F⟩, BS.out _ _ _⟩
        · have F : Hid (TermIs l 0 0 0 false) := LB.out (.inl (NE.out 0 h0 120 t0))
          go_wp2_with fail
          exact bodyPost_ret (v := .tuple #[.agg #[.int .i64 0, .int .i64 0, .int .i32 0], .bool false]) (by simp [results, Tryz.results21, go_sem, *]) rfl ⟨⟨_, _, _, _, rfl, F⟩, BS.out _ _ _⟩
      · have F := hideD (LK.out k FA.out k5)
        have k6 : ¬ (k : Int) = 5 := by omega
        go_wp2_with fail
        exact bodyPost_ret (v := .tuple #[.agg #[.int .i64 0, .int .i64 0, .int .i32 0], .bool false]) (by simp [results, Tryz.results21, go_sem, *]) rfl ⟨⟨_, _, _, _, rfl, F⟩, BS.out _ _ _⟩
end Go.Proofs.YtdkolgndebkloaaGreatDoor
