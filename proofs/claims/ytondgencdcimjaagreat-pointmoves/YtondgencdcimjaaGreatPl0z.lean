/-
  The document's zones as point asks of them; both of gnomonlaw06; gnomonmem.SameRats.
-/
import Derived.Test.YtondgencdcimjaaGreatPtIz
import Derived.Test.YtondgencdcimjaaGreatPtGz
import Derived.Test.YtondgencdcimjaaGreatPtKz
import Derived.Test.YtondgencdcimjaaGreatZd
import Derived.Test.YtondgencdcimjaaGreatZe
import Derived.Test.YtondgencdcimjaaGreatPtOz
namespace Go.Proofs.YtondgencdcimjaaGreat
open Go.RowKit Go.Shelf
set_option linter.unusedVariables false
set_option maxRecDepth 100000

theorem RZone.past {w w' : World} {B r n : Nat} {l : List Int} (h : RZone w B r n l) (hb : Below w.heap.size w w') : RZone w' B r n l := by
  obtain ⟨g, cap, h0, h1, h2, h3, h4⟩ := h
  exact ⟨g, cap, kc _ _ hb h0, kc _ _ hb h1, h2, h3, fun j hj => kc _ _ hb (h4 j hj)⟩
theorem rdim_any {w : World} {B b n : Nat} {l : List Int} (h : RZone w B b n l) : Calls Tryz.prog 75 #[.pointer (some ⟨b, 0, none⟩)] w fun e w' => e = .returned (.int .i64 n) ∧ w' = w := by
  obtain ⟨g, cap, h0, -⟩ := h
  go_enter Tryz.func75, Tryz.ntmps75
  go_wp2_with fail
  go_ret
  exact ⟨rfl, rfl⟩
theorem rempty_any {w : World} {B b n : Nat} {l : List Int} (h : RZone w B b n l) (hl : 0 < l.length) :
    Calls Tryz.prog 74 #[.pointer (some ⟨b, 0, none⟩)] w fun e w' => e = .returned (.bool (l.getD 0 0 != 1)) ∧ w' = w := by
  obtain ⟨g, cap, h0, h1, -, -, h4⟩ := h
  have a0 := h4 0 hl
  clear h4 h0
  generalize l.getD 0 0 = x at *
  generalize l.length = m at *
  have m0 : (0 : Int) < (m : Int) := by omega
  go_enter Tryz.func74, Tryz.ntmps74
  go_wp2
  go_ret
  exact ⟨rfl, rfl⟩
set_option maxHeartbeats 1000000 in
theorem rcell_in (b g n i j m cap : Nat) (x : Int) (w : World) (hn : n ≤ 8) (hi : i ≤ n) (hj : j ≤ n) (hm : m = (n + 1) * (n + 1)) (h0 : w.cell? ⟨b, 0, none⟩ = some (.int .i64 n)) (h1 : w.cell? ⟨b, 1, none⟩ = some (.slice (some ⟨g, 0, none⟩) m cap)) (h2 : w.cell? ⟨g, i * (n + 1) + j, none⟩ = some (.int .i32 x)) :
    Calls Tryz.prog 76 #[.pointer (some ⟨b, 0, none⟩), .int .i64 i, .int .i64 j] w fun e w' => e = .returned (.tuple #[.int .i32 x, .int .i64 0]) ∧ Below w.heap.size w w' := by
  have l1 := pos_lt hi hj
  have q81 : (n + 1) * (n + 1) ≤ 81 := Nat.mul_le_mul (show n + 1 ≤ 9 by omega) (show n + 1 ≤ 9 by omega)
  rw [← hm] at l1 q81
  clear hm
  have e1 : IntKind.i64.wrap ((i : Int) * ((n : Int) + 1)) = ((i * (n + 1) : Nat) : Int) := by
    have : (i : Int) * ((n : Int) + 1) = ((i * (n + 1) : Nat) : Int) := by simp
    rw [this, IntKind.wrap_i64]
    generalize i * (n + 1) = z at *
    omega
  generalize i * (n + 1) = a at *
  have e3 : (0 : Int) ≤ (a : Int) := by omega
  have e5 : (a : Int) + (j : Int) < (m : Int) := by omega
  have e8 : (m : Int) ≤ 81 := by omega
  go_enter Tryz.func76, Tryz.ntmps76
  go_wp2_with fail
  go_quiet (fail)
  go_wp2_with fail
  exact bodyPost_ret (v := .tuple #[.int .i32 x, .int .i64 0]) (by simp [results, Tryz.results76, go_sem]) rfl ⟨rfl, below_draw _ _⟩
set_option maxRecDepth 100000 in
set_option maxHeartbeats 4000000 in
theorem same_rats (ad ad' : Option Addr) (cap cap' : Nat) (L : Rats) (w : World) (hV : RatV w ad L) (hV' : RatV w ad' L) (hq : L.q ≤ 9223372036854775807) :
    Calls Tryz.prog 15 #[.slice ad L.q cap, .slice ad' L.q cap'] w fun e w' => e = .returned (.bool true) ∧ Below w.heap.size w w' := by
  have HV := hideR hV
  have HV' := hideR hV'
  clear hV hV'
  generalize hm : L.q = m at *
  have HM := hideR hm
  clear hm
  have m0 : ((m : Int) == (m : Int)) = true := by simp
  have B0 := hideR (Below.refl w.heap.size w)
  go_enter Tryz.func15, Tryz.ntmps15
  go_wp2_with fail
  go_loopw [5] (fun s wr => ∃ (J : Nat), J ≤ m ∧ s = .int .i64 J ∧ Hid (Below w.heap.size w wr)) (fun s _ => m - (intOf s).toNat)
  case atStart => exact ⟨0, by omega, rfl, B0⟩
  case round =>
    obtain ⟨J, hJ, rfl, B⟩ := hrel
    clear B0
    by_cases cj : J < m
    · obtain ⟨b, off, rfl, d1, d2⟩ := HV.out J (by rw [HM.out]; exact cj)
      obtain ⟨b', off', rfl, f1, f2⟩ := HV'.out J (by rw [HM.out]; exact cj)
      have c1 := kc _ _ B.out d1
      have c2 := kc _ _ B.out d2
      have g1 := kc _ _ B.out f1
      have g2 := kc _ _ B.out f2
      have k0 : (0 : Int) ≤ (J : Int) := by omega
      have k1 : (J : Int) < (m : Int) := by omega
      clear d1 d2 f1 f2
      generalize L.n J = u at *
      generalize L.d J = v at *
      go_wp2_with fail
      go_quiet (fail)
      go_wp2_with fail
      go_roundw
      case rel => exact ⟨J + 1, by omega, by go_num, hideR (by first | exact B.out | exact Below.drew B.out | exact below_drewN B.out _)⟩
      case measure => simp [intOf]; omega
    · have e : J = m := by omega
      subst e
      have k1 : decide ((J : Int) < (J : Int)) = false := by simp
      go_wp2_with fail
      go_ret
      exact ⟨rfl, B.out⟩

def SliceAt (w : World) (v : Value) (l : List Int) : Prop := (∃ ad c, v = .slice ad 0 c ∧ l = []) ∨ (∃ b off cap, v = .slice (some ⟨b, off, none⟩) l.length cap ∧ ∀ j, j < l.length → w.cell? ⟨b, off + j, none⟩ = some (.int .i32 (l.getD j 0)))
theorem right_all {l : List Int} : ∀ {m : Nat}, allRight l m = true → RightL m l
  | 0, _ => fun k hk => by omega
  | m + 1, h => fun k hk => by
    rw [allRight] at h
    simp only [Bool.and_eq_true] at h
    by_cases e : k = m
    · subst e
      have := h.2
      unfold rightB at this
      exact of_decide_eq_true this
    · exact right_all h.1 k (by omega)
set_option maxHeartbeats 1000000 in
theorem both6_raw (n : Int) (v : Value) (w : World) (A B : World → Option Addr → Prop) (HP : Calls Tryz.prog 23 #[.int .i64 n, v] w fun x w' => (∃ p e, x = .returned (.tuple #[.pointer p, .int .i64 e]) ∧ A w' p) ∧ Below w.heap.size w w')
    (HR : ∀ w', Below w.heap.size w w' → Calls Tryz.prog 67 #[.int .i64 n, v] w' fun x w'' => (∃ p e, x = .returned (.tuple #[.pointer p, .int .i64 e]) ∧ B w'' p) ∧ Below w'.heap.size w' w'') (hA : ∀ w' w'' p, A w' p → Below w'.heap.size w' w'' → A w'' p) :
    Calls Tryz.prog 20 #[.int .i64 n, v] w fun x w'' => (∃ p r, x = .returned (.tuple #[.pointer p, .pointer r]) ∧ A w'' p ∧ B w'' r) ∧ Below w.heap.size w w'' := by
  have H1 := hideD HP
  have H2 := hideD HR
  have H3 := hideD hA
  clear HP HR hA
  go_enter Tryz.func20, Tryz.ntmps20
  go_wp2_with fail
  refine H1.out.mono ?_
  rintro x w1 ⟨⟨p, e, rfl, ha⟩, hb⟩
  have HA := hideD ha
  have B1 := hideD hb
  have HH := hideD (H2.out w1 hb)
  clear ha hb H1 H2
  go_wp2_with fail
  refine HH.out.mono ?_
  rintro x w2 ⟨⟨r, e2, rfl, hbb⟩, hb⟩
  have HA2 := hideD (H3.out _ _ _ HA.out hb)
  have HB2 := hideD hbb
  have B2 := hideD (beyondD B1.out hb)
  clear hbb hb HH
  go_wp2_with fail
  go_ret2
  exact ⟨⟨p, r, rfl, HA2.out, HB2.out⟩, B2.out⟩
/-- What both tells: nothing by either, or one zone by each. -/
def Both6 (w' : World) (n : Int) (x : Ending) : Prop :=
  x = .returned (.tuple #[.pointer none, .pointer none]) ∨
  ∃ (N : Nat) (c : Row) (b r B : Nat), n = N ∧ N ≤ 8 ∧ x = .returned (.tuple #[.pointer (some ⟨b, 0, none⟩), .pointer (some ⟨r, 0, none⟩)]) ∧ ZoneAt w' b N c ∧ RZone w' B r N (listOf c ((N + 1) * (N + 1))) ∧ (∀ k, rightB (c k) = true) ∧ (¬ c 0 < 1 → ∃ p, Full N ((N + 1) * (N + 1)) p c)
theorem both6_any (n : Int) (v : Value) (l : List Int) (w : World) (hS : SliceAt w v l) (hi : ∀ j, j < l.length → -2147483648 ≤ l.getD j 0 ∧ l.getD j 0 ≤ 2147483647) (hby : l.length ≤ 9223372036854775807) :
    Calls Tryz.prog 20 #[.int .i64 n, v] w fun x w' => Both6 w' n x ∧ Below w.heap.size w w' := by
  have err : ∀ e, (∀ w', Below w.heap.size w w' → Calls Tryz.prog 23 #[.int .i64 n, v] w' fun x w'' => x = errOf e ∧ Below w'.heap.size w' w'') → (∀ w', Below w.heap.size w w' → Calls Tryz.prog 67 #[.int .i64 n, v] w' fun x w'' => x = errOf e ∧ Below w'.heap.size w' w'') →
      Calls Tryz.prog 20 #[.int .i64 n, v] w fun x w' => Both6 w' n x ∧ Below w.heap.size w w' := fun e h1 h2 => by
    refine (both6_raw n v w (fun _ p => p = none) (fun _ p => p = none) ((h1 w (Below.refl _ _)).mono fun x w' ⟨hx, hb⟩ => ⟨⟨none, e, hx, rfl⟩, hb⟩) (fun w' hb => (h2 w' hb).mono fun x w'' ⟨hx, hb⟩ => ⟨⟨none, e, hx, rfl⟩, hb⟩) (fun _ _ _ h _ => h)).mono ?_
    rintro x w' ⟨⟨p, r, rfl, rfl, rfl⟩, hb⟩
    exact ⟨.inl rfl, hb⟩
  have same : ∀ {f : Nat} {e : Int} (w' : World), Calls Tryz.prog f #[.int .i64 n, v] w' (fun x w'' => x = errOf e ∧ w'' = w') → Calls Tryz.prog f #[.int .i64 n, v] w' (fun x w'' => x = errOf e ∧ Below w'.heap.size w' w'') := fun w' h => h.mono fun x w'' ⟨hx, hw⟩ => ⟨hx, by rw [hw]; exact Below.refl _ _⟩
  by_cases hn : 0 ≤ n ∧ n ≤ 8
  · obtain ⟨N, rfl⟩ := Int.eq_ofNat_of_zero_le hn.1
    have N8 : N ≤ 8 := by omega
    have mp : 0 < (N + 1) * (N + 1) := Nat.mul_pos (by omega) (by omega)
    by_cases hl : l.length = (N + 1) * (N + 1)
    · rcases hS with ⟨ad, c, rfl, rfl⟩ | ⟨cb, off, cap, rfl, hc⟩
      · exfalso
        simp at hl
      · have hcb : cb < w.heap.size := World.block_lt_of_cell? _ _ (hc 0 (by omega))
        have row : ∀ w', Below w.heap.size w w' → RowAt w' cb off l := fun w' hb j hj => (hb.cell (p := ⟨cb, off + j, none⟩) hcb).trans (hc j hj)
        have P := fun w' hb => of_main N cb off cap l w' N8 hl (row w' hb) hi
        have R := fun w' hb => rof_main N cb off cap l w' N8 hl (row w' hb) hi
        cases ha : allRight l l.length
        · refine err 7 (fun w' hb => (P w' hb).mono fun x w'' h => ?_) (fun w' hb => (R w' hb).mono fun x w'' h => ?_)
          · obtain ⟨h1, ⟨-, h2⟩ | ⟨h2, -⟩⟩ := h
            · exact ⟨h2, h1⟩
            · rw [ha] at h2; cases h2
          · obtain ⟨h1, ⟨-, h2⟩ | ⟨h2, -⟩⟩ := h
            · exact ⟨h2, h1⟩
            · rw [ha] at h2; cases h2
        · have os := of_same N l hl (fun j hj => (hi j (by omega)).2)
          cases hz : zoneR N (tgAll N l l.length (startR N (N + 1) 0)) with
          | none =>
            rw [hz] at os
            refine err 10 (fun w' hb => (P w' hb).mono fun x w'' h => ?_) (fun w' hb => (R w' hb).mono fun x w'' h => ?_)
            · obtain ⟨h1, ⟨h2, -⟩ | ⟨-, h2⟩⟩ := h
              · rw [ha] at h2; cases h2
              · rw [hz] at h2; exact ⟨h2, h1⟩
            · obtain ⟨h1, ⟨h2, -⟩ | ⟨-, h2⟩⟩ := h
              · rw [ha] at h2; cases h2
              · rw [os] at h2; exact ⟨h2, h1⟩
          | some c =>
            rw [hz] at os
            refine (both6_raw (N : Int) _ w (fun w' p => ∃ b, p = some ⟨b, 0, none⟩ ∧ ZoneAt w' b N c) (fun w' p => ∃ r B, p = some ⟨r, 0, none⟩ ∧ RZone w' B r N (listOf c ((N + 1) * (N + 1)))) ((P w (Below.refl _ _)).mono fun x w'' h => ?_) (fun w' hb => (R w' hb).mono fun x w'' h => ?_) (fun w' w'' p ⟨b, e, h⟩ hb => ⟨b, e, h.past hb⟩)).mono ?_
            · obtain ⟨h1, ⟨h2, -⟩ | ⟨-, h2⟩⟩ := h
              · rw [ha] at h2; cases h2
              · rw [hz] at h2
                obtain ⟨b, _, rfl, h2⟩ := h2
                exact ⟨⟨_, _, rfl, b, rfl, h2⟩, h1⟩
            · obtain ⟨h1, ⟨h2, -⟩ | ⟨-, h2⟩⟩ := h
              · rw [ha] at h2; cases h2
              · rw [os] at h2
                obtain ⟨r, rfl, h2⟩ := h2
                exact ⟨⟨_, _, rfl, r, _, rfl, h2⟩, h1⟩
            · rintro x w' ⟨⟨p, r, rfl, ⟨b, rfl, h1⟩, r', B, rfl, h2⟩, hb⟩
              exact ⟨.inr ⟨N, c, b, r', B, rfl, N8, rfl, h1, h2, zoneR_right hz, fun h0 => full_of (l := l) N8 rfl (hl ▸ right_all ha) (by rw [← hl]; exact hz) h0⟩, hb⟩
    · obtain ⟨ad, cap, rfl⟩ : ∃ ad cap, v = .slice ad l.length cap := by
        rcases hS with ⟨ad, c, rfl, rfl⟩ | ⟨cb, off, cap, rfl, hc⟩
        · exact ⟨ad, c, rfl⟩
        · exact ⟨_, cap, rfl⟩
      exact err 6 (fun w' hb => of_long N l.length cap ad w' N8 hl hby) (fun w' hb => same w' (rof_long N l.length cap _ ad w' N8 rfl hl))
  · exact err 12 (fun w' hb => same w' (of_clock n v w' hn)) (fun w' hb => same w' (rof_clock n v w' hn))
end Go.Proofs.YtondgencdcimjaaGreat
