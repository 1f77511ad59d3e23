/-
  The walk of the statement ExtraGone.
-/
import Derived.Test.YtjmgkbcgaloipaaDoorTgz
import Derived.Test.YtjmgkbcgaloipaaDoorWtz
namespace Go.Proofs.YtjmgkbcgaloipaaDoor
open Go.RowKit
set_option linter.unusedVariables false
set_option maxRecDepth 100000
theorem rows3 {w W : World} {b : Nat} {v0 v1 v2 : Value} {l0 l1 l2 : List Int} (hb : Below w.heap.size w W) (c0 : W.cell? ⟨b, 0, none⟩ = some v0) (c1 : W.cell? ⟨b, 1, none⟩ = some v1) (c2 : W.cell? ⟨b, 2, none⟩ = some v2) (h0 : IntsAt w v0 l0) (h1 : IntsAt w v1 l1) (h2 : IntsAt w v2 l2) (b0 : l0.length * 8 ≤ 140737488355328) (b1 : l1.length * 8 ≤ 140737488355328) (b2 : l2.length * 8 ≤ 140737488355328) :
    RowsI W (some ⟨b, 0, none⟩) 3 (fun k => if k = 0 then v0 else if k = 1 then v1 else v2) (fun k => if k = 0 then l0 else if k = 1 then l1 else l2) := fun k hk => by
  refine ⟨b, 0, rfl, ?_, ?_, ?_⟩
  · match k, hk with
    | 0, _ => exact c0
    | 1, _ => exact c1
    | 2, _ => exact c2
  · match k, hk with
    | 0, _ => exact h0.past hb
    | 1, _ => exact h1.past hb
    | 2, _ => exact h2.past hb
  · match k, hk with
    | 0, _ => exact b0
    | 1, _ => exact b1
    | 2, _ => exact b2
theorem ints_same {w : World} {u v : Value} {l : List Int} (h : IntsAt w u l) (h' : IntsAt w v l) (hl : l.length ≤ 9223372036854775807) : Calls Tryd.prog 70 #[u, v] w fun e w' => e = .returned (.bool true) ∧ Below w.heap.size w w' := by
  obtain ⟨a, c, rfl⟩ := h.form
  obtain ⟨a', c', rfl⟩ := h'.form
  exact same_ints l.length c c' a a' l w rfl h h' hl
set_option maxHeartbeats 8000000 in
theorem extraGone.walk (n : Int) (hn : (Lit.int .i64 n).wf = true) (v : Value) (l : List Int) (v0 : Value) (l0 : List Int) (v1 : Value) (l1 : List Int) (v2 : Value) (l2 : List Int) (w : World) (ht : Pow w) (hS : SliceAt w v l) (wf : ∀ z ∈ l, (Lit.int .i32 z).wf = true) (hby : l.length * 4 ≤ 140737488355328) (hnil : ∀ {c}, v = .slice none 0 c → c = 0)
    (hi0 : IntsAt w v0 l0) (wf0 : ∀ z ∈ l0, (Lit.int .i64 z).wf = true) (by0 : l0.length * 8 ≤ 140737488355328) (nl0 : v0 = .slice none 0 0 ∨ ∃ a c, v0 = .slice (some a) l0.length c) (hi1 : IntsAt w v1 l1) (wf1 : ∀ z ∈ l1, (Lit.int .i64 z).wf = true) (by1 : l1.length * 8 ≤ 140737488355328) (nl1 : v1 = .slice none 0 0 ∨ ∃ a c, v1 = .slice (some a) l1.length c) (hi2 : IntsAt w v2 l2) (wf2 : ∀ z ∈ l2, (Lit.int .i64 z).wf = true) (by2 : l2.length * 8 ≤ 140737488355328) (nl2 : v2 = .slice none 0 0 ∨ ∃ a c, v2 = .slice (some a) l2.length c) :
    Calls Tryd.prog 13 #[.int .i64 n, v, .agg #[v0, v1, v2]] w fun e w' => e = .returned (.bool true) ∧ Below w.heap.size w w' := by
  obtain ⟨o, z1, N1, s1⟩ := both5_any n v l w hS (wf_cells wf) (by omega)
  obtain ⟨d0, p0, rfl⟩ := hi0.form
  obtain ⟨d1, p1, rfl⟩ := hi1.form
  obtain ⟨d2, p2, rfl⟩ := hi2.form
  have HV : Hid (∀ w', Below w.heap.size w w' → Calls Tryd.prog 63 #[] w' fun e w'' => e = .returned (.bool true) ∧ Below w'.heap.size w' w'') := fun w' hb => elive_any w' (pow_later ht hb)
  have HH : Hid (∀ w', Below w.heap.size w w' → Calls Tryd.prog 58 #[.slice d0 l0.length p0] w' fun e w'' => e = .returned (.slice (some ⟨w'.heap.size, 0, none⟩) l0.length (l0.length + 9)) ∧ Hid (∀ j, j < l0.length + 9 → w''.cell? ⟨w'.heap.size, j, none⟩ = some (.int .i64 (roomI l0 l0.length j))) ∧ w'.heap.size < w''.heap.size ∧ Below w'.heap.size w' w'') := fun w' hb => hand_ints l0.length p0 d0 l0 w' rfl (hi0.past hb) by0
  have HK : Hid (∀ g w', Below w.heap.size w w' → (∀ j, j < l0.length + 9 → w'.cell? ⟨g, j, none⟩ = some (.int .i64 (roomI l0 l0.length j))) → Calls Tryd.prog 67 #[.slice (some ⟨g, 0, none⟩) l0.length (l0.length + 9), .slice d0 l0.length p0] w' fun e w'' => e = .returned (.bool true) ∧ Below w'.heap.size w' w'') := fun g w' hb hg => kept_ints g l0.length p0 d0 l0 w' rfl hg (hi0.past hb) by0
  have I0 : Hid (∀ w', Below w.heap.size w w' → IntsAt w' (.slice d0 l0.length p0) l0) := fun w' hb => hi0.past hb
  have HR : Hid (∀ (b : Nat) w', Below w.heap.size w w' → w'.cell? ⟨b, 0, none⟩ = some (.slice d0 l0.length p0) → w'.cell? ⟨b, 1, none⟩ = some (.slice d1 l1.length p1) → w'.cell? ⟨b, 2, none⟩ = some (.slice d2 l2.length p2) → RowsI w' (some ⟨b, 0, none⟩) 3 (fun k => if k = 0 then .slice d0 l0.length p0 else if k = 1 then .slice d1 l1.length p1 else .slice d2 l2.length p2) (fun k => if k = 0 then l0 else if k = 1 then l1 else l2)) := fun b w' hb c0 c1 c2 => rows3 hb c0 c1 c2 hi0 hi1 hi2 by0 by1 by2
  have GL : Hid ((gA (fun k => if k = 0 then l0 else if k = 1 then l1 else l2) 3).length ≤ 9223372036854775807) := Nat.le_trans (gA_le _ 17592186044416 3 (fun k hk => by
    match k, hk with
    | 0, _ => show l0.length ≤ _; omega
    | 1, _ => show l1.length ≤ _; omega
    | 2, _ => show l2.length ≤ _; omega)) (by decide)
  have B0 := hideD (below_one w (.cells #[.slice d0 l0.length p0, .slice d1 l1.length p1, .slice d2 l2.length p2] 100))
  have S1 := hideD s1
  have X0 : Hid ((w.alloc (.cells #[.slice d0 l0.length p0, .slice d1 l1.length p1, .slice d2 l2.length p2] 100)).cell? ⟨w.heap.size, 0, none⟩ = some (.slice d0 l0.length p0)) := by show _ = _; simp [go_sem]
  have Y0 : Hid ((w.alloc (.cells #[.slice d0 l0.length p0, .slice d1 l1.length p1, .slice d2 l2.length p2] 100)).cell? ⟨w.heap.size, 1, none⟩ = some (.slice d1 l1.length p1)) := by show _ = _; simp [go_sem]
  have Z0 : Hid ((w.alloc (.cells #[.slice d0 l0.length p0, .slice d1 l1.length p1, .slice d2 l2.length p2] 100)).cell? ⟨w.heap.size, 2, none⟩ = some (.slice d2 l2.length p2)) := by show _ = _; simp [go_sem]
  have bl0 : l0.length ≤ 9223372036854775807 := by omega
  clear s1 hS wf hnil hby ht hn hi0 hi1 hi2 wf0 wf1 wf2 nl0 nl1 nl2
  generalize hGG : gA (fun k => if k = 0 then l0 else if k = 1 then l1 else l2) 3 = GG at *
  have GE := hideD hGG.symm
  clear hGG
  have HZ1 := hideD z1
  generalize hq0 : l0.length = q0 at *
  have Q0 := hideD hq0
  generalize l1.length = q1 at *
  generalize l2.length = q2 at *
  clear hq0 z1
  go_enter Tryd.func13, Tryd.ntmps13
  go_wp2_with fail
  generalize w.alloc (.cells #[.slice d0 q0 p0, .slice d1 q1 p1, .slice d2 q2 p2] 100) = w0 at *
  have S2 := hideD (S1.out w0 B0.out)
  clear S1
  refine S2.out.mono ?_
  rintro e w1 ⟨⟨p, q, rfl, hp, hq⟩, hb1⟩
  have B1 := hideD (beyondD B0.out hb1.out)
  have x1 := kc _ _ hb1.out X0.out
  have y1 := kc _ _ hb1.out Y0.out
  have zz1 := kc _ _ hb1.out Z0.out
  have HH1 := hideD (HH.out w1 B1.out)
  clear S2 hb1 X0 Y0 Z0 B0 HH
  go_wp2_with fail
  refine HH1.out.mono ?_
  rintro e w2 ⟨rfl, hroom, hs, hb2⟩
  have B2 := hideD (beyondD B1.out hb2)
  have x2 := kc _ _ hb2 x1
  have y2 := kc _ _ hb2 y1
  have zz2 := kc _ _ hb2 zz1
  have P2 := hideD (hp.out.past hb2)
  have Q2 := hideD (hq.out.past hb2)
  have own2 : IntsAt w2 (.slice (some ⟨w1.heap.size, 0, none⟩) q0 (q0 + 9)) l0 := room_ints Q0.out hroom.out
  obtain ⟨k, o2, u1, u2, u3⟩ := two_gone P2.out Q2.out HZ1.out own2 (I0.out w2 B2.out) (by have := Q0.out; omega)
  have U1 := hideD (u1 _ (Below.refl _ _))
  have U2 := hideD u2
  generalize w1.heap.size = g at *
  clear HH1 u1 u2 u3 hp hq hb2 hs x1 y1 zz1 B1 own2 P2 Q2 HZ1
  go_wp2_with fail
  refine U1.out.mono ?_
  rintro e w3 ⟨⟨pa, rfl, hpa⟩, hb3⟩
  have B3 := hideD (beyondD B2.out hb3.out)
  have x3 := kc _ _ hb3.out x2
  have y3 := kc _ _ hb3.out y2
  have zz3 := kc _ _ hb3.out zz2
  have R3 : Hid (∀ j, j < q0 + 9 → w3.cell? ⟨g, j, none⟩ = some (.int .i64 (roomI l0 q0 j))) := fun j hj => kc _ _ hb3.out (hroom.out j hj)
  have U3 := hideD (U2.out _ hb3.out)
  clear U1 U2 hb3 x2 y2 zz2 hroom B2
  go_wp2_with fail
  refine U3.out.mono ?_
  rintro e w4 ⟨⟨qa, rfl, hqa⟩, hb4⟩
  have B4 := hideD (beyondD B3.out hb4.out)
  have x4 := kc _ _ hb4.out x3
  have y4 := kc _ _ hb4.out y3
  have zz4 := kc _ _ hb4.out zz3
  have R4 : Hid (∀ j, j < q0 + 9 → w4.cell? ⟨g, j, none⟩ = some (.int .i64 (roomI l0 q0 j))) := fun j hj => kc _ _ hb4.out (R3.out j hj)
  have PA := hideD (hpa.out.past hb4.out)
  have QA := hideD hqa.out
  clear U3 hb4 x3 y3 zz3 hpa hqa R3 B3
  have LO := hideD (ozL_len o2 PA.out.n8)
  have C1 : Hid (∀ w', Below w4.heap.size w4 w' → Calls Tryd.prog 63 #[] w' fun e w'' => e = .returned (.bool true) ∧ Below w'.heap.size w' w'') := fun w' hb => HV.out w' (beyondD B4.out hb)
  have C2 : Hid (∀ w', Below w4.heap.size w4 w' → _) := fun w' hb => pz_cells (PA.out.past hb)
  have C3 : Hid (∀ w', Below w4.heap.size w4 w' → _) := fun w' hb => rz_cells (QA.out.past hb)
  have C4 : Hid (∀ u v w', SliceAt w' u (ozL o2) → SliceAt w' v (ozL o2) → Calls Tryd.prog 64 #[u, v] w' fun e w'' => e = .returned (.bool true) ∧ Below w'.heap.size w' w'') := fun u v w' h1 h2 => (same_slices u v _ w' h1 h2 (by have := LO.out; omega)).mono fun e w'' ⟨h1, k, h2⟩ => ⟨h1, by rw [h2]; exact below_drewN (Below.refl _ _) k⟩
  have C5 : Hid (∀ w', Below w4.heap.size w4 w' → Calls Tryd.prog 67 #[.slice (some ⟨g, 0, none⟩) q0 (q0 + 9), .slice d0 q0 p0] w' fun e w'' => e = .returned (.bool true) ∧ Below w'.heap.size w' w'') := fun w' hb => HK.out g w' (beyondD B4.out hb) (fun j hj => kc _ _ hb (R4.out j hj))
  have C6 : Hid (∀ (b : Nat) w', Below w4.heap.size w4 w' → w'.cell? ⟨b, 0, none⟩ = some (.slice d0 q0 p0) → w'.cell? ⟨b, 1, none⟩ = some (.slice d1 q1 p1) → w'.cell? ⟨b, 2, none⟩ = some (.slice d2 q2 p2) → Calls Tryd.prog 71 #[.slice (some ⟨b, 0, none⟩) 3 3] w' fun e w'' => (∃ x k c, e = .returned (.slice x k c) ∧ Hid (IntsAt w'' (.slice x k c) GG)) ∧ Hid (Below w'.heap.size w' w'')) := fun b w' hb h0 h1 h2 => by
    have := great_any 3 3 (some ⟨b, 0, none⟩) _ _ w' (HR.out b w' (beyondD B4.out hb) h0 h1 h2) (by omega)
    rw [← GE.out] at this
    exact this.mono fun e w'' ⟨⟨x, k, c, e1, e2⟩, e3⟩ => ⟨⟨x, k, c, e1, e2.out.2⟩, e3⟩
  have C7 : Hid (∀ (b : Nat) w', Below w4.heap.size w4 w' → w'.cell? ⟨b, 0, none⟩ = some (.slice d0 q0 p0) → w'.cell? ⟨b, 1, none⟩ = some (.slice d1 q1 p1) → w'.cell? ⟨b, 2, none⟩ = some (.slice d2 q2 p2) → Calls Tryd.prog 72 #[.slice (some ⟨b, 0, none⟩) 3 3] w' fun e w'' => (∃ x k c, e = .returned (.slice x k c) ∧ Hid (IntsAt w'' (.slice x k c) GG)) ∧ Hid (Below w'.heap.size w' w'')) := fun b w' hb h0 h1 h2 => by
    have := rgreat_any 3 3 (some ⟨b, 0, none⟩) _ _ w' (HR.out b w' (beyondD B4.out hb) h0 h1 h2) (by omega)
    rw [← GE.out] at this
    exact this.mono fun e w'' ⟨⟨x, k, c, e1, e2⟩, e3⟩ => ⟨⟨x, k, c, e1, e2.out.2⟩, e3⟩
  have C8 : Hid (∀ u v w', IntsAt w' u GG → IntsAt w' v GG → Calls Tryd.prog 70 #[u, v] w' fun e w'' => e = .returned (.bool true) ∧ Below w'.heap.size w' w'') := fun u v w' h1 h2 => ints_same h1 h2 GL.out
  have C9 : Hid (∀ w', Calls Tryd.prog 71 #[.slice none 0 0] w' fun e w'' => (∃ x c, e = .returned (.slice x 0 c)) ∧ Hid (Below w'.heap.size w' w'')) := fun w' => (great_any 0 0 none (fun _ => .bool false) (fun _ => []) w' (fun k hk => absurd hk (Nat.not_lt_zero _)) (by omega)).mono fun e w'' ⟨⟨x, k, c, e1, e2⟩, e3⟩ => ⟨⟨x, c, by rw [e1, ← e2.out.1]; rfl⟩, e3⟩
  have B6 := Below.refl w4.heap.size w4
  have x4' : w4.drew.cell? ⟨w.heap.size, 0, none⟩ = some (.slice d0 q0 p0) := x4
  have y4' : w4.drew.cell? ⟨w.heap.size, 1, none⟩ = some (.slice d1 q1 p1) := y4
  have z4' : w4.drew.cell? ⟨w.heap.size, 2, none⟩ = some (.slice d2 q2 p2) := zz4
  clear HV HK HR I0 GL R4 PA QA LO bl0 Q0 GE
  go_upto_region 5 with (fail)
  go_region_held3 (fun w5 => w5.cell? ⟨w.heap.size, 0, none⟩ = some (.slice d0 q0 p0) ∧ w5.cell? ⟨w.heap.size, 1, none⟩ = some (.slice d1 q1 p1) ∧ w5.cell? ⟨w.heap.size, 2, none⟩ = some (.slice d2 q2 p2))
    (first | (refine ⟨?_, ?_, ?_⟩ <;> with_reducible assumption) | go_keep)
    (first
      | (go_at_call 63; with_reducible refine (C1.out _ (by first | assumption | (apply Below.drew; assumption) | exact beyondD (by assumption) (below_one _ _) | exact beyondD (beyondD (by assumption) (below_one _ _)) (below_one _ _))).mono ?_; rintro e' w6 ⟨rfl, hb6⟩; have ra0 := kc ⟨w.heap.size, 0, none⟩ (.slice d0 q0 p0) hb6 (by first | assumption | simp [go_sem, *]; done | exact kc _ _ (below_one _ _) (by assumption) | exact kc _ _ (below_one _ _) (kc _ _ (below_one _ _) (by assumption))); have ra1 := kc ⟨w.heap.size, 1, none⟩ (.slice d1 q1 p1) hb6 (by first | assumption | simp [go_sem, *]; done | exact kc _ _ (below_one _ _) (by assumption) | exact kc _ _ (below_one _ _) (kc _ _ (below_one _ _) (by assumption))); have ra2 := kc ⟨w.heap.size, 2, none⟩ (.slice d2 q2 p2) hb6 (by first | assumption | simp [go_sem, *]; done | exact kc _ _ (below_one _ _) (by assumption) | exact kc _ _ (below_one _ _) (kc _ _ (below_one _ _) (by assumption))); have sa := beyondD (w := w4) (by first | assumption | (apply Below.drew; assumption) | exact beyondD (by assumption) (below_one _ _) | exact beyondD (beyondD (by assumption) (below_one _ _)) (below_one _ _)) hb6)
      | (go_at_call 65; with_reducible refine (C2.out _ (by first | assumption | (apply Below.drew; assumption) | exact beyondD (by assumption) (below_one _ _) | exact beyondD (beyondD (by assumption) (below_one _ _)) (below_one _ _))).mono ?_; rintro e' w7 ⟨⟨vv1, rfl, sl1⟩, hb7⟩; have rb0 := kc ⟨w.heap.size, 0, none⟩ (.slice d0 q0 p0) hb7.out (by first | assumption | simp [go_sem, *]; done | exact kc _ _ (below_one _ _) (by assumption) | exact kc _ _ (below_one _ _) (kc _ _ (below_one _ _) (by assumption))); have rb1 := kc ⟨w.heap.size, 1, none⟩ (.slice d1 q1 p1) hb7.out (by first | assumption | simp [go_sem, *]; done | exact kc _ _ (below_one _ _) (by assumption) | exact kc _ _ (below_one _ _) (kc _ _ (below_one _ _) (by assumption))); have rb2 := kc ⟨w.heap.size, 2, none⟩ (.slice d2 q2 p2) hb7.out (by first | assumption | simp [go_sem, *]; done | exact kc _ _ (below_one _ _) (by assumption) | exact kc _ _ (below_one _ _) (kc _ _ (below_one _ _) (by assumption))); have sb := beyondD (w := w4) (by first | assumption | (apply Below.drew; assumption) | exact beyondD (by assumption) (below_one _ _) | exact beyondD (beyondD (by assumption) (below_one _ _)) (below_one _ _)) hb7.out)
      | (go_at_call 66; with_reducible refine (C3.out _ (by first | assumption | (apply Below.drew; assumption) | exact beyondD (by assumption) (below_one _ _) | exact beyondD (beyondD (by assumption) (below_one _ _)) (below_one _ _))).mono ?_; rintro e' w8 ⟨⟨vv2, rfl, sl2⟩, hb8⟩; have rc0 := kc ⟨w.heap.size, 0, none⟩ (.slice d0 q0 p0) hb8.out (by first | assumption | simp [go_sem, *]; done | exact kc _ _ (below_one _ _) (by assumption) | exact kc _ _ (below_one _ _) (kc _ _ (below_one _ _) (by assumption))); have rc1 := kc ⟨w.heap.size, 1, none⟩ (.slice d1 q1 p1) hb8.out (by first | assumption | simp [go_sem, *]; done | exact kc _ _ (below_one _ _) (by assumption) | exact kc _ _ (below_one _ _) (kc _ _ (below_one _ _) (by assumption))); have rc2 := kc ⟨w.heap.size, 2, none⟩ (.slice d2 q2 p2) hb8.out (by first | assumption | simp [go_sem, *]; done | exact kc _ _ (below_one _ _) (by assumption) | exact kc _ _ (below_one _ _) (kc _ _ (below_one _ _) (by assumption))); have sc := beyondD (w := w4) (by first | assumption | (apply Below.drew; assumption) | exact beyondD (by assumption) (below_one _ _) | exact beyondD (beyondD (by assumption) (below_one _ _)) (below_one _ _)) hb8.out; have sl1' := sl1.out.past' hb8.out)
      | (go_at_call 64; with_reducible refine (C4.out _ _ _ sl1' sl2.out).mono ?_; rintro e' w9 ⟨rfl, hb9⟩; have rd0 := kc ⟨w.heap.size, 0, none⟩ (.slice d0 q0 p0) hb9 (by first | assumption | simp [go_sem, *]; done | exact kc _ _ (below_one _ _) (by assumption) | exact kc _ _ (below_one _ _) (kc _ _ (below_one _ _) (by assumption))); have rd1 := kc ⟨w.heap.size, 1, none⟩ (.slice d1 q1 p1) hb9 (by first | assumption | simp [go_sem, *]; done | exact kc _ _ (below_one _ _) (by assumption) | exact kc _ _ (below_one _ _) (kc _ _ (below_one _ _) (by assumption))); have rd2 := kc ⟨w.heap.size, 2, none⟩ (.slice d2 q2 p2) hb9 (by first | assumption | simp [go_sem, *]; done | exact kc _ _ (below_one _ _) (by assumption) | exact kc _ _ (below_one _ _) (kc _ _ (below_one _ _) (by assumption))); have sd := beyondD (w := w4) (by first | assumption | (apply Below.drew; assumption) | exact beyondD (by assumption) (below_one _ _) | exact beyondD (beyondD (by assumption) (below_one _ _)) (below_one _ _)) hb9)
      | (go_at_call 67; with_reducible refine (C5.out _ (by first | assumption | (apply Below.drew; assumption) | exact beyondD (by assumption) (below_one _ _) | exact beyondD (beyondD (by assumption) (below_one _ _)) (below_one _ _))).mono ?_; rintro e' w10 ⟨rfl, hb10⟩; have re0 := kc ⟨w.heap.size, 0, none⟩ (.slice d0 q0 p0) hb10 (by first | assumption | simp [go_sem, *]; done | exact kc _ _ (below_one _ _) (by assumption) | exact kc _ _ (below_one _ _) (kc _ _ (below_one _ _) (by assumption))); have re1 := kc ⟨w.heap.size, 1, none⟩ (.slice d1 q1 p1) hb10 (by first | assumption | simp [go_sem, *]; done | exact kc _ _ (below_one _ _) (by assumption) | exact kc _ _ (below_one _ _) (kc _ _ (below_one _ _) (by assumption))); have re2 := kc ⟨w.heap.size, 2, none⟩ (.slice d2 q2 p2) hb10 (by first | assumption | simp [go_sem, *]; done | exact kc _ _ (below_one _ _) (by assumption) | exact kc _ _ (below_one _ _) (kc _ _ (below_one _ _) (by assumption))); have se := beyondD (w := w4) (by first | assumption | (apply Below.drew; assumption) | exact beyondD (by assumption) (below_one _ _) | exact beyondD (beyondD (by assumption) (below_one _ _)) (below_one _ _)) hb10)
      | (go_at_call 71; with_reducible refine (C6.out _ _ (by first | assumption | (apply Below.drew; assumption) | exact beyondD (by assumption) (below_one _ _) | exact beyondD (beyondD (by assumption) (below_one _ _)) (below_one _ _)) (by first | assumption | (simp [go_sem]; done) | exact kc _ _ (below_one _ _) (by assumption) | exact kc _ _ (below_one _ _) (by simp [go_sem])) (by first | assumption | (simp [go_sem]; done) | exact kc _ _ (below_one _ _) (by assumption) | exact kc _ _ (below_one _ _) (by simp [go_sem])) (by first | assumption | (simp [go_sem]; done) | exact kc _ _ (below_one _ _) (by assumption) | exact kc _ _ (below_one _ _) (by simp [go_sem]))).mono ?_; rintro e' w11 ⟨⟨gx1, gk1, gc1, rfl, ii1⟩, hb11⟩; have rf0 := kc ⟨w.heap.size, 0, none⟩ (.slice d0 q0 p0) hb11.out (by first | assumption | simp [go_sem, *]; done | exact kc _ _ (below_one _ _) (by assumption) | exact kc _ _ (below_one _ _) (kc _ _ (below_one _ _) (by assumption))); have rf1 := kc ⟨w.heap.size, 1, none⟩ (.slice d1 q1 p1) hb11.out (by first | assumption | simp [go_sem, *]; done | exact kc _ _ (below_one _ _) (by assumption) | exact kc _ _ (below_one _ _) (kc _ _ (below_one _ _) (by assumption))); have rf2 := kc ⟨w.heap.size, 2, none⟩ (.slice d2 q2 p2) hb11.out (by first | assumption | simp [go_sem, *]; done | exact kc _ _ (below_one _ _) (by assumption) | exact kc _ _ (below_one _ _) (kc _ _ (below_one _ _) (by assumption))); have sf := beyondD (w := w4) (by first | assumption | (apply Below.drew; assumption) | exact beyondD (by assumption) (below_one _ _) | exact beyondD (beyondD (by assumption) (below_one _ _)) (below_one _ _)) hb11.out; (try have nb00 := kc ⟨w10.heap.size, 0, none⟩ (.slice d0 q0 p0) hb11.out (by first | assumption | (simp [go_sem]; done) | exact kc _ _ (below_one _ _) (by assumption) | exact kc _ _ (below_one _ _) (by simp [go_sem]))); (try have nb01 := kc ⟨w10.heap.size, 1, none⟩ (.slice d1 q1 p1) hb11.out (by first | assumption | (simp [go_sem]; done) | exact kc _ _ (below_one _ _) (by assumption) | exact kc _ _ (below_one _ _) (by simp [go_sem]))); (try have nb02 := kc ⟨w10.heap.size, 2, none⟩ (.slice d2 q2 p2) hb11.out (by first | assumption | (simp [go_sem]; done) | exact kc _ _ (below_one _ _) (by assumption) | exact kc _ _ (below_one _ _) (by simp [go_sem]))); (try have nb10 := kc ⟨w10.heap.size + 1, 0, none⟩ (.slice d0 q0 p0) hb11.out (by first | assumption | (simp [go_sem]; done) | exact kc _ _ (below_one _ _) (by assumption) | exact kc _ _ (below_one _ _) (by simp [go_sem]))); (try have nb11 := kc ⟨w10.heap.size + 1, 1, none⟩ (.slice d1 q1 p1) hb11.out (by first | assumption | (simp [go_sem]; done) | exact kc _ _ (below_one _ _) (by assumption) | exact kc _ _ (below_one _ _) (by simp [go_sem]))); (try have nb12 := kc ⟨w10.heap.size + 1, 2, none⟩ (.slice d2 q2 p2) hb11.out (by first | assumption | (simp [go_sem]; done) | exact kc _ _ (below_one _ _) (by assumption) | exact kc _ _ (below_one _ _) (by simp [go_sem]))))
      | (go_at_call 72; with_reducible refine (C7.out _ _ (by first | assumption | (apply Below.drew; assumption) | exact beyondD (by assumption) (below_one _ _) | exact beyondD (beyondD (by assumption) (below_one _ _)) (below_one _ _)) (by first | assumption | (simp [go_sem]; done) | exact kc _ _ (below_one _ _) (by assumption) | exact kc _ _ (below_one _ _) (by simp [go_sem])) (by first | assumption | (simp [go_sem]; done) | exact kc _ _ (below_one _ _) (by assumption) | exact kc _ _ (below_one _ _) (by simp [go_sem])) (by first | assumption | (simp [go_sem]; done) | exact kc _ _ (below_one _ _) (by assumption) | exact kc _ _ (below_one _ _) (by simp [go_sem]))).mono ?_; rintro e' w12 ⟨⟨gx2, gk2, gc2, rfl, ii2⟩, hb12⟩; have rg0 := kc ⟨w.heap.size, 0, none⟩ (.slice d0 q0 p0) hb12.out (by first | assumption | simp [go_sem, *]; done | exact kc _ _ (below_one _ _) (by assumption) | exact kc _ _ (below_one _ _) (kc _ _ (below_one _ _) (by assumption))); have rg1 := kc ⟨w.heap.size, 1, none⟩ (.slice d1 q1 p1) hb12.out (by first | assumption | simp [go_sem, *]; done | exact kc _ _ (below_one _ _) (by assumption) | exact kc _ _ (below_one _ _) (kc _ _ (below_one _ _) (by assumption))); have rg2 := kc ⟨w.heap.size, 2, none⟩ (.slice d2 q2 p2) hb12.out (by first | assumption | simp [go_sem, *]; done | exact kc _ _ (below_one _ _) (by assumption) | exact kc _ _ (below_one _ _) (kc _ _ (below_one _ _) (by assumption))); have sg := beyondD (w := w4) (by first | assumption | (apply Below.drew; assumption) | exact beyondD (by assumption) (below_one _ _) | exact beyondD (beyondD (by assumption) (below_one _ _)) (below_one _ _)) hb12.out; have ii1' : IntsAt w12 (.slice gx1 gk1 gc1) GG := (by first | exact ii1.out.past hb12.out | exact (ii1.out.past (below_one _ _)).past hb12.out))
      | (go_at_call 70; with_reducible refine (C8.out _ _ _ ii1' ii2.out).mono ?_; rintro e' w13 ⟨rfl, hb13⟩; have rh0 := kc ⟨w.heap.size, 0, none⟩ (.slice d0 q0 p0) hb13 (by first | assumption | simp [go_sem, *]; done | exact kc _ _ (below_one _ _) (by assumption) | exact kc _ _ (below_one _ _) (kc _ _ (below_one _ _) (by assumption))); have rh1 := kc ⟨w.heap.size, 1, none⟩ (.slice d1 q1 p1) hb13 (by first | assumption | simp [go_sem, *]; done | exact kc _ _ (below_one _ _) (by assumption) | exact kc _ _ (below_one _ _) (kc _ _ (below_one _ _) (by assumption))); have rh2 := kc ⟨w.heap.size, 2, none⟩ (.slice d2 q2 p2) hb13 (by first | assumption | simp [go_sem, *]; done | exact kc _ _ (below_one _ _) (by assumption) | exact kc _ _ (below_one _ _) (kc _ _ (below_one _ _) (by assumption))); have sh := beyondD (w := w4) (by first | assumption | (apply Below.drew; assumption) | exact beyondD (by assumption) (below_one _ _) | exact beyondD (beyondD (by assumption) (below_one _ _)) (below_one _ _)) hb13)
      | (go_at_call 71; with_reducible refine (C9.out _).mono ?_; rintro e' w14 ⟨⟨gx3, gc3, rfl⟩, hb14⟩; have ri0 := kc ⟨w.heap.size, 0, none⟩ (.slice d0 q0 p0) hb14.out (by first | assumption | simp [go_sem, *]; done | exact kc _ _ (below_one _ _) (by assumption) | exact kc _ _ (below_one _ _) (kc _ _ (below_one _ _) (by assumption))); have ri1 := kc ⟨w.heap.size, 1, none⟩ (.slice d1 q1 p1) hb14.out (by first | assumption | simp [go_sem, *]; done | exact kc _ _ (below_one _ _) (by assumption) | exact kc _ _ (below_one _ _) (kc _ _ (below_one _ _) (by assumption))); have ri2 := kc ⟨w.heap.size, 2, none⟩ (.slice d2 q2 p2) hb14.out (by first | assumption | simp [go_sem, *]; done | exact kc _ _ (below_one _ _) (by assumption) | exact kc _ _ (below_one _ _) (kc _ _ (below_one _ _) (by assumption))); have si := beyondD (w := w4) (by first | assumption | (apply Below.drew; assumption) | exact beyondD (by assumption) (below_one _ _) | exact beyondD (beyondD (by assumption) (below_one _ _)) (below_one _ _)) hb14.out))
  all_goals
    have BF := hideD (beyondD B4.out si)
    go_wp2_with fail
    go_ret
    exact ⟨rfl, BF.out⟩
end Go.Proofs.YtjmgkbcgaloipaaDoor
