/-
  fed: the law's zones by both ways; slices of slices of bounds opened.
-/
import Derived.Test.YtnfkmpickmonoaaGreatQ30
import Derived.Test.YtnfkmpickmonoaaGreatQ16
import Derived.Test.YtnfkmpickmonoaaGreatQ14
import Derived.Deep.Slices
import Derived.ProofKit
import Derived.OpenShut
import Derived.OrdersHeld
import Derived.Deep.RegionHeld
import Derived.Test.YtnfkmpickmonoaaGreatQ17
namespace Go.Proofs.YtnfkmpickmonoaaGreat
open Go.ChangeShapes Go.WideShapes Go.ChangeAt Go.RowKit Go.Deep Go.Shelf
set_option linter.unusedVariables false
set_option maxRecDepth 100000
/-- A zone that is there, or none: its clocks and cells. -/
abbrev OZ7 := Option (Nat × Row)
def PZo (w : World) (p : Option Addr) : OZ7 → Prop
  | none => p = none
  | some (n, c) => n ≤ 8 ∧ C32 c ∧ ∃ b, p = some ⟨b, 0, none⟩ ∧ ZoneAt w b n c
def RZo (w : World) (p : Option Addr) : OZ7 → Prop
  | none => p = none
  | some (n, c) => n ≤ 8 ∧ ∃ r B, p = some ⟨r, 0, none⟩ ∧ RZone w B r n (listOf c ((n + 1) * (n + 1)))
def ZCo7 (o : OZ7) : Prop := ∀ n c, o = some (n, c) → ZC n ((n + 1) * (n + 1)) c
theorem PZo.past {w w' : World} {p : Option Addr} {o : OZ7} (h : PZo w p o) (hb : Below w.heap.size w w') : PZo w' p o := by
  cases o with
  | none => exact h
  | some x =>
    obtain ⟨h1, h2, b, h3, h4⟩ := h
    exact ⟨h1, h2, b, h3, h4.past hb⟩
def SayP7 (w : World) (f : Nat) (args : Array Value) (k : Int) (o : OZ7) : Prop := ∀ w', Below w.heap.size w w' → Calls Tryz.prog f args w' fun e w'' => (∃ p, e = .returned (.tuple #[.pointer p, .int .i64 k]) ∧ Hid (PZo w'' p o)) ∧ Hid (Below w'.heap.size w' w'')
def SayR7 (w : World) (f : Nat) (args : Array Value) (k : Int) (o : OZ7) : Prop := ∀ w', Below w.heap.size w w' → Calls Tryz.prog f args w' fun e w'' => (∃ p, e = .returned (.tuple #[.pointer p, .int .i64 k]) ∧ Hid (RZo w'' p o)) ∧ Hid (Below w'.heap.size w' w'')
theorem zco_none7 : ZCo7 none := fun n c h => by cases h
theorem same_w7 {f : Nat} {args : Array Value} {k : Int} {w : World} (h : Calls Tryz.prog f args w fun e w' => e = errOf k ∧ w' = w) : Calls Tryz.prog f args w fun e w' => e = errOf k ∧ Below w.heap.size w w' := h.mono fun e w' ⟨h1, h2⟩ => ⟨h1, by rw [h2]; exact Below.refl _ _⟩
theorem right_of_all7 {l : List Int} {m : Nat} (h : allRight l m = true) : RightL m l := fun k hk => by
  have : ∀ m, allRight l m = true → ∀ k, k < m → rightB (l.getD k 0) = true := by
    intro m
    induction m with
    | zero => intro _ k hk; omega
    | succ m ih =>
      intro h k hk
      simp only [allRight, Bool.and_eq_true] at h
      by_cases q : k = m
      · subst q; exact h.2
      · exact ih h.1 k (by omega)
  exact of_decide_eq_true (this m h k hk)
/-- Of by both. -/
theorem two_of7 (n : Int) (v : Value) (l : List Int) (w : World) (hS : SliceAt w v l) (hi : ∀ j, j < l.length → -2147483648 ≤ l.getD j 0 ∧ l.getD j 0 ≤ 2147483647) (hby : l.length ≤ 9223372036854775807) :
    ∃ k o, SayP7 w 9 #[.int .i64 n, v] k o ∧ SayR7 w 10 #[.int .i64 n, v] k o ∧ ZCo7 o ∧ ∀ N c, o = some (N, c) → n = (N : Int) := by
  have err : ∀ k, (∀ w', Below w.heap.size w w' → Calls Tryz.prog 9 #[.int .i64 n, v] w' fun x w'' => x = errOf k ∧ Below w'.heap.size w' w'') → (∀ w', Below w.heap.size w w' → Calls Tryz.prog 10 #[.int .i64 n, v] w' fun x w'' => x = errOf k ∧ Below w'.heap.size w' w'') →
      ∃ k o, SayP7 w 9 #[.int .i64 n, v] k o ∧ SayR7 w 10 #[.int .i64 n, v] k o ∧ ZCo7 o ∧ ∀ N c, o = some (N, c) → n = (N : Int) := fun k h1 h2 =>
    ⟨k, none, fun w' hb => (h1 w' hb).mono fun e w'' ⟨he, hb'⟩ => ⟨⟨none, he, rfl⟩, hb'⟩, fun w' hb => (h2 w' hb).mono fun e w'' ⟨he, hb'⟩ => ⟨⟨none, he, rfl⟩, hb'⟩, zco_none7, fun N c h => by cases h⟩
  by_cases hn : 0 ≤ n ∧ n ≤ 8
  · obtain ⟨N, rfl⟩ := Int.eq_ofNat_of_zero_le hn.1
    have N8 : N ≤ 8 := by omega
    have mp : 0 < (N + 1) * (N + 1) := Nat.mul_pos (by omega) (by omega)
    by_cases hl : l.length = (N + 1) * (N + 1)
    · rcases hS with ⟨ad, c, rfl, rfl⟩ | ⟨cb, off, cap, rfl, hc⟩
      · exfalso
        simp at hl
      · have hcb : cb < w.heap.size := World.block_lt_of_cell? _ _ (hc 0 (by omega))
        have row : ∀ w', Below w.heap.size w w' → RowAt w' cb off l := fun w' hb j hj => (hb.cell (p := ⟨cb, off + j, none⟩) hcb).trans (hc j hj)
        have P := fun w' hb => of_main N cb off cap l w' N8 hl (row w' hb) hi
        have R := fun w' hb => rof_main N cb off cap l w' N8 hl (row w' hb) hi
        cases ha : allRight l l.length
        · refine err 7 (fun w' hb => (P w' hb).mono fun x w'' h => ?_) (fun w' hb => (R w' hb).mono fun x w'' h => ?_)
          · obtain ⟨h1, ⟨-, h2⟩ | ⟨h2, -⟩⟩ := h
            · exact ⟨h2, h1⟩
            · rw [ha] at h2; cases h2
          · obtain ⟨h1, ⟨-, h2⟩ | ⟨h2, -⟩⟩ := h
            · exact ⟨h2, h1⟩
            · rw [ha] at h2; cases h2
        · have os := of_same N l hl (fun j hj => (hi j (by omega)).2)
          cases hz : zoneR N (tgAll N l l.length (startR N (N + 1) 0)) with
          | none =>
            rw [hz] at os
            refine err 10 (fun w' hb => (P w' hb).mono fun x w'' h => ?_) (fun w' hb => (R w' hb).mono fun x w'' h => ?_)
            · obtain ⟨h1, ⟨h2, -⟩ | ⟨-, h2⟩⟩ := h
              · rw [ha] at h2; cases h2
              · rw [hz] at h2; exact ⟨h2, h1⟩
            · obtain ⟨h1, ⟨h2, -⟩ | ⟨-, h2⟩⟩ := h
              · rw [ha] at h2; cases h2
              · rw [os] at h2; exact ⟨h2, h1⟩
          | some c =>
            rw [hz] at os
            refine ⟨0, some (N, c), fun w' hb => (P w' hb).mono fun x w'' h => ?_, fun w' hb => (R w' hb).mono fun x w'' h => ?_, fun N' c' h => ?_, fun N' c' h => ?_⟩
            · obtain ⟨h1, ⟨h2, -⟩ | ⟨-, h2⟩⟩ := h
              · rw [ha] at h2; cases h2
              · rw [hz] at h2
                obtain ⟨b, -, h3, h4⟩ := h2
                exact ⟨⟨_, h3, N8, zoneR_32 hz, b, rfl, h4⟩, h1⟩
            · obtain ⟨h1, ⟨h2, -⟩ | ⟨-, h2⟩⟩ := h
              · rw [ha] at h2; cases h2
              · rw [os] at h2
                obtain ⟨b, h3, h4⟩ := h2
                exact ⟨⟨_, h3, N8, b, _, rfl, h4⟩, h1⟩
            · cases h
              rw [hl] at hz ha
              exact zc_drf N8 rfl (right_of_all7 ha) hz
            · cases h
              rfl
    · obtain ⟨ad, cap, rfl⟩ : ∃ ad cap, v = .slice ad l.length cap := by
        rcases hS with ⟨ad, c, rfl, rfl⟩ | ⟨cb, off, cap, rfl, hc⟩
        · exact ⟨ad, c, rfl⟩
        · exact ⟨_, cap, rfl⟩
      exact err 6 (fun w' hb => of_long N l.length cap ad w' N8 hl hby) (fun w' hb => same_w7 (rof_long N l.length cap _ ad w' N8 rfl hl))
  · exact err 12 (fun w' hb => same_w7 (of_clock n v w' hn)) (fun w' hb => same_w7 (rof_clock n v w' hn))
/-! ### Slices of slices of bounds -/
theorem wf_cells7 {l : List Int} (wf : ∀ z ∈ l, (Lit.int .i32 z).wf = true) : ∀ j, j < l.length → -2147483648 ≤ l.getD j 0 ∧ l.getD j 0 ≤ 2147483647 := fun j hj => by
  have e : l.getD j 0 = l[j] := by simp [List.getD, hj]
  have := bounds_i32 (wf _ (List.getElem_mem hj))
  rw [e]
  exact this
/-- Slices of bounds behind an address. -/
def Bss (w : World) (ad : Option Addr) (len : Nat) (V : Nat → Value) (L : Nat → List Int) : Prop := ∀ k, k < len → ∃ b off, ad = some ⟨b, off, none⟩ ∧ w.cell? ⟨b, off + k, none⟩ = some (V k) ∧ SliceAt w (V k) (L k) ∧ (∀ z ∈ L k, (Lit.int .i32 z).wf = true) ∧ (L k).length ≤ 9223372036854775807
theorem open_bs {H : Type} {enc : TypeId × Value → H} {w : World} {base : Nat} {spare : Nat → Bool} {held : Bool} {fuel : Nat} {v : Value} {x : DataW H × List MemPlace}
    (h : DataW.trod enc Tryz.prog w base spare held fuel 26 [v] = some x) : ∃ l : List Int, SliceAt w v l ∧ (∀ z ∈ l, (Lit.int .i32 z).wf = true) ∧ l.length ≤ 9223372036854775807 := by
  rcases open_ints Tryz.underlying26 Tryz.underlying79 (by kernel_rfl) h with ⟨hcs, _⟩ | ⟨a, len, cap, zs, hcs, _, hl, hm, hz, hx, hcell, hwz⟩
  · simp at hcs
    exact ⟨[], .inl ⟨_, _, hcs, rfl⟩, by simp, by simp⟩
  · simp at hcs
    subst hcs
    have hlz : len ≤ zs.length := by rw [hz]; split <;> omega
    have tl : (zs.take len).length = len := by simp; omega
    refine ⟨zs.take len, ?_, fun z hz' => hwz z (List.mem_of_mem_take hz'), by rw [tl]; unfold maxLen at hm; omega⟩
    by_cases hp : 0 < len
    · obtain ⟨bk, off, rfl, hc⟩ := ints_at hcell (by omega)
      refine .inr ⟨bk, off, cap, by rw [tl], fun j hj => ?_⟩
      rw [tl] at hj
      rw [hc j (by omega)]
      simp [List.getD, hj]
    · obtain rfl : len = 0 := by omega
      exact .inl ⟨_, _, rfl, by simp⟩
theorem open_bss {H : Type} {enc : TypeId × Value → H} {w : World} {base : Nat} {spare : Nat → Bool} {held : Bool} {fuel : Nat} {ad : Option Addr} {len cap : Nat} {x : DataW H × List MemPlace}
    (h : DataW.trod enc Tryz.prog w base spare held fuel 22 (Value.slice ad len cap).cells.toList = some x) :
    ∃ V L, Bss w ad len V L := by
  rcases open_slice1 Tryz.underlying22 (by kernel_rfl) h with ⟨h0, _⟩ | ⟨a, len', cap', m, n, V, D, Pl, h0, _, hl, hm, hmm, hx, he⟩
  · simp [Value.cells] at h0
    obtain ⟨rfl, rfl, rfl⟩ := h0
    exact ⟨fun _ => .bool false, fun _ => [], fun k hk => by omega⟩
  · simp [Value.cells] at h0
    obtain ⟨rfl, rfl, rfl⟩ := h0
    have lm : len ≤ m := by rw [hmm]; split <;> omega
    have each : ∀ i, i < len → ∃ l : List Int, SliceAt w (V i) l ∧ (∀ z ∈ l, (Lit.int .i32 z).wf = true) ∧ l.length ≤ 9223372036854775807 := fun i hi => open_bs (he i (by omega)).2
    obtain ⟨L, hL⟩ := choose_lt each
    refine ⟨V, L, fun k hk => ?_⟩
    obtain ⟨bk, off, spot⟩ := a
    have c0 := (he k (by omega)).1
    have hspot : spot = none := by have := World.cell?_spot (he 0 (by omega)).1; simpa [Addr.add] using this
    subst hspot
    rw [Go.WideShapes.add_plain] at c0
    exact ⟨bk, off, rfl, c0, (hL k hk).1, (hL k hk).2.1, (hL k hk).2.2⟩
theorem SliceAt.past7 {w w' : World} {v : Value} {l : List Int} (h : SliceAt w v l) (hb : Below w.heap.size w w') : SliceAt w' v l := by
  rcases h with ⟨ad, c, h1, h2⟩ | ⟨b, off, cap, h1, h2⟩
  · exact .inl ⟨ad, c, h1, h2⟩
  · exact .inr ⟨b, off, cap, h1, fun j hj => kc _ _ hb (h2 j hj)⟩
end Go.Proofs.YtnfkmpickmonoaaGreat

/-
  fed: both News tell the same zones.
-/
namespace Go.Proofs.YtnfkmpickmonoaaGreat
open Go.RowKit Go.Shelf
set_option linter.unusedVariables false
set_option maxRecDepth 100000
/-- A zone by both, or none: the program's block, the document's, the cells. -/
abbrev E3 := Option (Nat × Nat × Row)
def eP (e : E3) : PZ7 := e.map fun z => (z.1, z.2.2)
def eR (m : Nat) (e : E3) : RPZ7 := e.map fun z => (z.2.1, listOf z.2.2 m)
def hasN (es : List E3) : Bool := es.any (·.isNone)
theorem hasN_P (es : List E3) : hasNil (es.map eP) = hasN es := by
  unfold hasNil hasN
  rw [List.any_map]
  congr 1
  funext e
  cases e <;> rfl
theorem hasN_R (m : Nat) (es : List E3) : rhasNil (es.map (eR m)) = hasN es := by
  unfold rhasNil hasN
  rw [List.any_map]
  congr 1
  funext e
  cases e <;> rfl
theorem zc01' {n m : Nat} {c : Row} (hm : m = (n + 1) * (n + 1)) (h : ZC n m c) : c 0 = 0 ∨ c 0 = 1 := by
  rcases h with rfl | ⟨p, hp⟩
  · exact .inl rfl
  · exact .inr (hp.zero hm)
theorem layL_cells : ∀ (cs : List Row) (s : List Row), s.length + cs.length ≤ 4096 → layL (s, 0) (cs.map fun c => ((some c, 0) : YS)) = (s ++ cs.filter (fun c => decide (¬ c 0 < 1)), 0)
  | [], s, _ => by simp [layL]
  | c :: cs, s, h => by
    have e : layL (s, 0) ((c :: cs).map fun c => ((some c, 0) : YS)) = layL (layS (s, 0) (some c, 0)) (cs.map fun c => ((some c, 0) : YS)) := rfl
    rw [e]
    simp only [List.length_cons] at h
    by_cases h1 : c 0 < 1
    · have : layS (s, 0) (some c, 0) = (s, 0) := by simp [layS, h1]
      rw [this, layL_cells cs s (by omega), List.filter_cons]
      simp [h1]
    · have : layS (s, 0) (some c, 0) = (s ++ [c], 0) := by
        have hl : s.length ≠ 4096 := by omega
        simp [layS, h1, hl]
      rw [this, layL_cells cs (s ++ [c]) (by rw [List.length_append, List.length_singleton]; omega), List.filter_cons]
      simp [h1]
/-- The cells of the zones that are there. -/
def cellsE (es : List E3) : List Row := es.filterMap fun e => e.map fun z => z.2.2
theorem ysP_cells {es : List E3} (h : hasN es = false) : (es.map eP).map ysP = (cellsE es).map fun c => ((some c, 0) : YS) := by
  induction es with
  | nil => rfl
  | cons e es ih =>
    have h2 : hasN es = false := by
      unfold hasN at h ⊢
      rw [List.any_cons, Bool.or_eq_false_iff] at h
      exact h.2
    cases e with
    | none => cases h
    | some z =>
      have := ih h2
      simp only [List.map_cons, this, cellsE, List.filterMap_cons, Option.map_some]
      rfl
theorem cellsE_len (es : List E3) : (cellsE es).length ≤ es.length := List.length_filterMap_le _ _
/-- What fed.New makes of them. -/
theorem newL_cells {es : List E3} (h : hasN es = false) (hl : es.length ≤ 4096) : newL (es.map eP) = ((cellsE es).filter (fun c => decide (¬ c 0 < 1)), 0) := by
  unfold newL
  rw [ysP_cells h, layL_cells _ _ (by have := cellsE_len es; simp; omega)]
  rfl
/-- What the document's New makes of them. -/
theorem rnew_cells {n m : Nat} {es : List E3} {rs : List RZR} (hm : m = (n + 1) * (n + 1)) (h : hasN es = false) (hz : ∀ b r c, some (b, r, c) ∈ es → ZC n m c)
    (hr : rs.map some = (es.map (eR m)).filter (fun p => (p.map fun z => z.2.getD 0 0 != 1) == some false)) : rs.map (·.2) = ((cellsE es).filter (fun c => decide (¬ c 0 < 1))).map fun c => listOf c m := by
  have mp : 0 < m := by rw [hm]; exact Nat.mul_pos (by omega) (by omega)
  have key : ∀ es : List E3, hasN es = false → (∀ b r c, some (b, r, c) ∈ es → ZC n m c) → ((es.map (eR m)).filter (fun p => (p.map fun z => z.2.getD 0 0 != 1) == some false)).map (fun p => p.map (·.2)) = (((cellsE es).filter (fun c => decide (¬ c 0 < 1))).map fun c => listOf c m).map some := by
    intro es
    induction es with
    | nil => intro _ _; rfl
    | cons e es ih =>
      intro h hz
      have h2 : hasN es = false := by
        unfold hasN at h ⊢
        rw [List.any_cons, Bool.or_eq_false_iff] at h
        exact h.2
      cases e with
      | none => cases h
      | some z =>
        obtain ⟨b, r, c⟩ := z
        have I := ih h2 (fun b r c hm => hz b r c (List.mem_cons_of_mem _ hm))
        have z01 := zc01' hm (hz b r c List.mem_cons_self)
        have e1 : (listOf c m).getD 0 0 = c 0 := listOf_get c m 0 mp
        simp only [cellsE, List.filterMap_cons, Option.map_some, List.map_cons, eR, List.filter_cons, e1]
        simp only [cellsE] at I
        rcases z01 with q | q
        · simp only [q]
          simpa using I
        · simp only [q]
          simpa using I
  have k := key es h hz
  rw [← hr, List.map_map] at k
  have e2 : (rs.map ((fun p : RPZ7 => p.map (·.2)) ∘ some)) = (rs.map (·.2)).map some := by
    rw [List.map_map]
    rfl
  rw [e2] at k
  have inj : ∀ (a b : List (List Int)), a.map some = b.map some → a = b := by
    intro a
    induction a with
    | nil => intro b h; cases b with | nil => rfl | cons => simp at h
    | cons x a ih =>
      intro b h
      cases b with
      | nil => simp at h
      | cons y b =>
        simp only [List.map_cons, List.cons.injEq, Option.some.injEq] at h
        rw [h.1, ih b h.2]
  exact inj _ _ k
end Go.Proofs.YtnfkmpickmonoaaGreat

/-
  fed: same of the law.
-/
namespace Go.Proofs.YtnfkmpickmonoaaGreat
open Go.RowKit Go.Shelf
set_option linter.unusedVariables false
set_option maxRecDepth 100000
attribute [local go_sem] Oper.semAt_some
/-- The cells of an own row. -/
theorem own_at {w : World} {base q : Nat} {T : TypeId} {v : Value} {xs : List Value} (h : w.ownsRow base T 1 v q xs) : (v = .slice none 0 0 ∧ q = 0) ∨ ∃ g cap, v = .slice (some ⟨g, 0, none⟩) q cap ∧ base ≤ g ∧ (∃ cur, w.heap[g]? = some (.cells cur T)) ∧ ∀ k u, k < q → xs[k]? = some u → w.cell? ⟨g, k, none⟩ = some u := by
  rcases h.2 with ⟨h1, h2⟩ | ⟨g, cap, cur, h1, h2, h3, h4, h5, h6, h7⟩
  · exact .inl ⟨h1, h2⟩
  · refine .inr ⟨g, cap, h1, h2, ⟨cur, h3⟩, fun k u hk hu => ?_⟩
    have e : cur.toList[k]? = some u := by
      have := congrArg (fun l => l[k]?) h7
      simp only [Nat.mul_one] at this
      rw [List.getElem?_take_of_lt hk] at this
      rw [this, hu]
    have e' : cur[k]? = some u := by simpa using e
    simp [World.cell?, h3, e']
theorem RZone.weak7 {w : World} {B r n : Nat} {l : List Int} (h : RZone w B r n l) : RZone w 0 r n l := by
  obtain ⟨g, cap, h1, h2, -, -, h5⟩ := h
  exact ⟨g, cap, h1, h2, Nat.zero_le _, Nat.zero_le _, h5⟩
end Go.Proofs.YtnfkmpickmonoaaGreat
