/-
  fed: both News over both rows; what stays when a row of pointers is cleared.
-/
import Derived.Test.YtnfkmpickmonoaaQ49
import Derived.Test.YtnfkmpickmonoaaQ42
namespace Go.Proofs.Ytnfkmpickmonoaa
open Go.RowKit Go.Shelf
set_option linter.unusedVariables false
set_option maxRecDepth 100000
attribute [local go_sem] Oper.semAt_some
theorem FedAt.sameX {A B : World} {X : Option Nat} {fb n m : Nat} {zs : List ZR} (hs : SameC X A B) (hx : PtrX X A) (ho : ∀ v, A.cell? ⟨fb, 1, none⟩ = some v → ∀ x, X = some x → v.ownBlock ≠ some x) (h : FedAt A fb n m zs) : FedAt B fb n m zs := by
  obtain ⟨h0, ⟨v, h1, h2⟩, h3, h4⟩ := h
  have nf : some fb ≠ X := fun e => by
    obtain ⟨p, q⟩ := hx fb e.symm
    rw [h0] at q
    cases q
  exact ⟨hs.cell h0 nf, ⟨v, hs.cell h1 nf, hs.owns h2 (ho v h1)⟩, fun e he => ⟨hs.zone (h3 e he).1 (zone_ne hx (h3 e he).1), (h3 e he).2⟩, h4⟩
theorem RFedAt.sameX {A B : World} {X : Option Nat} {fb n m : Nat} {zs : List RZR} (hs : SameC X A B) (hx : PtrX X A) (hT : ∀ x, X = some x → ∃ cur, A.heap[x]? = some (.cells cur 30)) (mp : 0 < m) (h : RFedAt A fb n m zs) : RFedAt B fb n m zs := by
  obtain ⟨h0, ⟨v, h1, h2⟩, h3, h4⟩ := h
  have nf : some fb ≠ X := fun e => by
    obtain ⟨p, q⟩ := hx fb e.symm
    rw [h0] at q
    cases q
  refine ⟨hs.cell h0 nf, ⟨v, hs.cell h1 nf, h2.1, ?_⟩, fun e he => ⟨(h3 e he).1.sameX hs hx (by rw [(h3 e he).2.1]; exact mp), (h3 e he).2⟩, h4⟩
  rcases h2.2 with q | ⟨g, cap, cur, a1, a2, a3, a4⟩
  · exact .inl q
  · refine .inr ⟨g, cap, cur, a1, a2, hs.block g _ a3 rfl (fun e => ?_), a4⟩
    obtain ⟨cur', h⟩ := hT g e.symm
    rw [a3] at h
    injection h with h
    injection h with _ h
    exact absurd h (by decide)
theorem prow_both {H : Nat} {N : Nat} {W : World} {es : List E3} {va vb : Value} (h : Both7 H (N : Int) W es va vb) : (∃ ad cap, va = .slice ad es.length cap ∧ PRow W ad N ((N + 1) * (N + 1)) (es.map eP)) ∧ ((es = [] ∧ vb = .slice none 0 0) ∨ ∃ g cap, vb = .slice (some ⟨g, 0, none⟩) es.length cap ∧ RPRow W (some ⟨g, 0, none⟩) N ((N + 1) * (N + 1)) (es.map (eR ((N + 1) * (N + 1))))) := by
  have zP : ∀ z, some z ∈ es.map eP → ZoneAt W z.1 N z.2 ∧ ZC N ((N + 1) * (N + 1)) z.2 := fun z hz => by
    obtain ⟨e, he, h1⟩ := List.mem_map.1 hz
    cases e with
    | none => cases h1
    | some x =>
      obtain ⟨b, r, c⟩ := x
      injection h1 with h1
      subst h1
      obtain ⟨M, h2, -, h3, -, h5⟩ := h.zones b r c he
      obtain rfl : N = M := by omega
      exact ⟨h3, h5⟩
  have zR : ∀ z, some z ∈ es.map (eR ((N + 1) * (N + 1))) → RZone W 0 z.1 N z.2 ∧ z.2.length = (N + 1) * (N + 1) := fun z hz => by
    obtain ⟨e, he, h1⟩ := List.mem_map.1 hz
    cases e with
    | none => cases h1
    | some x =>
      obtain ⟨b, r, c⟩ := x
      injection h1 with h1
      subst h1
      obtain ⟨M, h2, -, -, h4, -⟩ := h.zones b r c he
      obtain rfl : N = M := by omega
      exact ⟨h4, listOf_len _ _⟩
  constructor
  · rcases own_at h.a with ⟨h1, h2⟩ | ⟨g, cap, h1, -, -, h3⟩
    · refine ⟨none, 0, by rw [h2]; exact h1, fun k hk => by simp at hk; omega, zP⟩
    · refine ⟨_, cap, h1, fun k hk => ⟨g, rfl, ?_⟩, zP⟩
      have hk' : k < es.length := by simpa using hk
      refine h3 k _ hk' ?_
      rw [List.getElem?_map, List.getElem?_eq_getElem hk', List.getElem_map]
      rfl
  · rcases own_at h.b with ⟨h1, h2⟩ | ⟨g, cap, h1, -, -, h3⟩
    · exact .inl ⟨List.length_eq_zero_iff.1 h2, h1⟩
    · refine .inr ⟨g, cap, h1, fun k hk => ⟨g, rfl, ?_⟩, zR⟩
      have hk' : k < es.length := by simpa using hk
      refine h3 k _ hk' ?_
      rw [List.getElem?_map, List.getElem?_eq_getElem hk', List.getElem_map]
      cases es[k] <;> rfl
theorem rnew_empty (n m : Nat) (w : World) (hn : n ≤ 8) : Calls Try.prog 10 #[.int .i64 (n : Int), .slice none 0 0] w fun e w' => RNewOut n m [] e w' ∧ Below w.heap.size w w' := by
  have n8 : (n : Int) ≤ 8 := by omega
  have n0 : ¬ (n : Int) < 0 := by omega
  have n9 : ¬ (8 : Int) < (n : Int) := by omega
  have B1 := hideD (below_one w (.cells #[.int .i64 (n : Int), .slice none 0 0] 83))
  have F : Hid (RFedAt (w.alloc (.cells #[.int .i64 (n : Int), .slice none 0 0] 83)) w.heap.size n m []) :=
    ⟨by simp [go_sem], ⟨.slice none 0 0, by simp [go_sem], World.ownsRow_nil _ _ _ _⟩, fun e he => by (cases he), by simp⟩
  go_enter Try.func10, Try.ntmps10
  go_wp2_with fail
  go_loopw [7] (fun i wr => i = .int .i64 0 ∧ Hid (wr = w.alloc (.cells #[.int .i64 (n : Int), .slice none 0 0] 83))) (fun _ _ => 0)
  case atStart => exact ⟨rfl, rfl⟩
  case round =>
    obtain ⟨rfl, B⟩ := hrel
    have eB := B.out
    subst eB
    clear B
    go_wp2_with fail
    go_loopw [8] (fun i wr => i = .int .i64 0 ∧ Hid (wr = w.alloc (.cells #[.int .i64 (n : Int), .slice none 0 0] 83))) (fun _ _ => 0)
    case atStart => exact ⟨rfl, rfl⟩
    case round =>
      obtain ⟨rfl, B⟩ := hrel
      have eB := B.out
      subst eB
      clear B
      go_wp2_with fail
      go_loopw [9] (fun i wr => i = .int .i64 0 ∧ Hid (wr = w.alloc (.cells #[.int .i64 (n : Int), .slice none 0 0] 83))) (fun _ _ => 0)
      case atStart => exact ⟨rfl, rfl⟩
      case round =>
        obtain ⟨rfl, B⟩ := hrel
        have eB := B.out
        subst eB
        clear B
        go_wp2_with fail
        refine bodyPost_ret (v := .tuple #[.pointer (some ⟨w.heap.size, 0, none⟩), .int .i64 0]) (by simp [results, Try.results10, go_sem]) rfl ?_
        exact ⟨⟨_, [], rfl, F.out, rfl⟩, B1.out⟩
/-- Both say the same error, or the same union. -/
def TwoFed (W : World) (fp : Nat) (ap : Array Value) (fr : Nat) (ar : Array Value) (N m : Nat) : Prop :=
  (∃ k : Int, k ≠ 0 ∧ (∀ W', Below W.heap.size W W' → Calls Try.prog fp ap W' fun e w' => e = .returned (.tuple #[.pointer none, .int .i64 k]) ∧ Below W'.heap.size W' w') ∧ (∀ W', Below W.heap.size W W' → Calls Try.prog fr ar W' fun e w' => e = .returned (.tuple #[.pointer none, .int .i64 k]) ∧ Below W'.heap.size W' w')) ∨
  (N ≤ 8 ∧ m = (N + 1) * (N + 1) ∧ ∃ F : List Row, (∀ W', Below W.heap.size W W' → Calls Try.prog fp ap W' fun e w' => (∃ fb zs, e = .returned (.tuple #[.pointer (some ⟨fb, 0, none⟩), .int .i64 0]) ∧ Hid (FedAt w' fb N m zs ∧ zs.map (·.2) = F ∧ OwnFed W'.heap.size e w')) ∧ Hid (Below W'.heap.size W' w')) ∧
    (∀ W', Below W.heap.size W W' → Calls Try.prog fr ar W' fun e w' => (∃ gb rs, e = .returned (.tuple #[.pointer (some ⟨gb, 0, none⟩), .int .i64 0]) ∧ Hid (RFedAt w' gb N m rs ∧ rs.map (·.2) = F.map fun c => listOf c m)) ∧ Hid (Below W'.heap.size W' w')))
theorem same_alike {m : Nat} {zs : List ZR} {rs : List RZR} {F : List Row} (h1 : zs.map (·.2) = F) (h2 : rs.map (·.2) = F.map fun c => listOf c m) : Alike m zs rs := by
  subst h1
  unfold Alike
  rw [h2, List.map_map]
  rfl
theorem news7 {H : Nat} {n : Int} {W : World} {es : List E3} {va vb : Value} (h : Both7 H n W es va vb) (hl : es.length ≤ 9) : ∃ N m : Nat, (0 ≤ n ∧ n ≤ 8 → n = (N : Int)) ∧ TwoFed W 9 #[.int .i64 n, va] 10 #[.int .i64 n, vb] N m := by
  by_cases hn : 0 ≤ n ∧ n ≤ 8
  · obtain ⟨N, rfl⟩ := Int.eq_ofNat_of_zero_le hn.1
    have N8 : N ≤ 8 := by omega
    refine ⟨N, (N + 1) * (N + 1), fun _ => rfl, ?_⟩
    obtain ⟨⟨ad, cap, rfl, hp⟩, hr⟩ := prow_both h
    have l1 : (es.map eP).length = es.length := List.length_map ..
    cases hN : hasN es
    · refine .inr ⟨N8, rfl, (newL (es.map eP)).1, fun W' hb => ?_, fun W' hb => ?_⟩
      · refine (new_own ad cap es.length N ((N + 1) * (N + 1)) (es.map eP) W' N8 l1 (by omega) (hp.past hb) (by rw [hasN_P, hN])).mono ?_
        rintro e w' ⟨⟨h1, -⟩ | ⟨h1, fb, zs, -, rfl, h3, h4⟩, h5, h6⟩
        · rw [newL_cells hN (by omega)] at h1
          exact absurd rfl h1
        · exact ⟨⟨fb, zs, rfl, h3, h4, h5⟩, h6⟩
      · have zc : ∀ b r c, some (b, r, c) ∈ es → ZC N ((N + 1) * (N + 1)) c := fun b r c hm => by
          obtain ⟨M, h2, -, -, -, h5⟩ := h.zones b r c hm
          obtain rfl : N = M := by omega
          exact h5
        have fin : ∀ e w', RNewOut N ((N + 1) * (N + 1)) (es.map (eR ((N + 1) * (N + 1)))) e w' → ∃ gb rs, e = .returned (.tuple #[.pointer (some ⟨gb, 0, none⟩), .int .i64 0]) ∧ Hid (RFedAt w' gb N ((N + 1) * (N + 1)) rs ∧ rs.map (·.2) = (newL (es.map eP)).1.map fun c => listOf c ((N + 1) * (N + 1))) := fun e w' ⟨fb, zs, h1, h2, h3⟩ => by
          refine ⟨fb, zs, h1, h2, ?_⟩
          rw [rnew_cells rfl hN zc h3, newL_cells hN (by omega)]
        rcases hr with ⟨rfl, rfl⟩ | ⟨g, cap', rfl, hr⟩
        · refine (rnew_empty N ((N + 1) * (N + 1)) W' N8).mono ?_
          rintro e w' ⟨h1, h2⟩
          exact ⟨fin e w' h1, h2⟩
        · refine (rnew_any g cap' es.length N ((N + 1) * (N + 1)) (es.map (eR ((N + 1) * (N + 1)))) W' N8 (Nat.mul_pos (by omega) (by omega)) (List.length_map ..) (by omega) (hr.past hb) (by rw [hasN_R, hN])).mono ?_
          rintro e w' ⟨h1, h2⟩
          exact ⟨fin e w' h1, h2⟩
    · refine .inl ⟨1, by decide, fun W' hb => ?_, fun W' hb => ?_⟩
      · exact new_nil ad cap es.length N ((N + 1) * (N + 1)) (es.map eP) W' N8 l1 (by omega) (hp.past hb) (by rw [hasN_P, hN])
      · rcases hr with ⟨rfl, rfl⟩ | ⟨g, cap', rfl, hr⟩
        · cases hN
        · exact rnew_nil (some ⟨g, 0, none⟩) cap' es.length N ((N + 1) * (N + 1)) (es.map (eR ((N + 1) * (N + 1)))) W' N8 (List.length_map ..) (by omega) (hr.past hb) (by rw [hasN_R, hN])
  · refine ⟨0, 0, fun h => absurd h hn, .inl ⟨12, by decide, fun W' hb => new_clock n va W' (by omega), fun W' hb => (rnew_clock n vb W' (by omega)).mono fun e w' ⟨h1, h2⟩ => ⟨h1, by rw [h2]; exact Below.refl _ _⟩⟩⟩
end Go.Proofs.Ytnfkmpickmonoaa
