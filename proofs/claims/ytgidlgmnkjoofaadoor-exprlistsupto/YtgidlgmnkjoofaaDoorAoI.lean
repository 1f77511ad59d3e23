/-
  Book.aloneInts: what lies in memory, step by step.
-/
import Derived.Test.YtgidlgmnkjoofaaDoorAo0
namespace Go.Proofs.YtgidlgmnkjoofaaDoor
open Go.RowKit
set_option linter.unusedVariables false
set_option maxRecDepth 100000
/-- The marks of a list of numbers. -/
def mkI (j t : Nat) : Value := .int .i64 (-9000 - (j : Int))
def marksI (j n : Nat) : List Value := (List.range n).map (mkI j)
theorem marksI_len (j n : Nat) : (marksI j n).length = n := by simp [marksI]
theorem marksI_get {j n t : Nat} (h : t < n) : (marksI j n)[t]? = some (mkI j t) := by simp [marksI, h]
theorem marksI_succ (j n : Nat) : marksI j (n + 1) = marksI j n ++ [.int .i64 (-9000 - (j : Int))] := by
  unfold marksI
  rw [List.range_succ, List.map_append]
  rfl
abbrev OwnI (W : World) (base : Nat) (v : Value) (n : Nat) (xs : List Value) : Prop := W.ownsRow base 3 1 v n xs
structure P1I (base N : Nat) (V : Nat → Value) (ln : Nat → Nat) (w W : World) (K k : Nat) : Prop where
  keep : KeepS (SB N V) w W
  own : ∀ j, j < N → ∃ xs, OwnI W base (V j) (ln j) xs ∧ ∀ t, t < doneR ln K k j → xs[t]? = some (mkI j t)
theorem P1I.start {base N : Nat} {V : Nat → Value} {ln : Nat → Nat} {w : World} (h : ∀ j, j < N → ∃ xs, OwnI w base (V j) (ln j) xs) : P1I base N V ln w w 0 0 :=
  ⟨KeepS.refl _ _, fun j hj => by
    obtain ⟨xs, hx⟩ := h j hj
    refine ⟨xs, hx, fun t ht => ?_⟩
    unfold doneR at ht
    rw [if_neg (by omega)] at ht
    split at ht <;> omega⟩
theorem P1I.next {base N : Nat} {V : Nat → Value} {ln : Nat → Nat} {w W : World} {K k : Nat} (h : P1I base N V ln w W K k) (hk : ln K ≤ k) : P1I base N V ln w W (K + 1) 0 :=
  ⟨h.keep, fun j hj => by
    obtain ⟨xs, hx, hm⟩ := h.own j hj
    refine ⟨xs, hx, fun t ht => hm t ?_⟩
    unfold doneR at ht ⊢
    by_cases c : j < K
    · rw [if_pos c]; rw [if_pos (by omega)] at ht; exact ht
    · by_cases e : j = K
      · subst e
        rw [if_pos (by omega)] at ht
        rw [if_neg (by omega), if_pos rfl]
        omega
      · rw [if_neg (by omega)] at ht
        split at ht <;> omega⟩
theorem P1I.put {base N : Nat} {V : Nat → Value} {ln : Nat → Nat} {O : Nat → Nat} {w W : World} {K k g cap : Nat} (hL : Lists base N V ln O) (h : P1I base N V ln w W K k) (hK : K < N) (hk : k < ln K) (hV : V K = .slice (some ⟨g, 0, none⟩) (ln K) cap) :
    P1I base N V ln w (W.setCell ⟨g, k, none⟩ (.int .i64 (-9000 - (K : Int)))) K (k + 1) := by
  have hb : (V K).ownBlock = some g := by rw [hV]; rfl
  obtain ⟨xs, hx, hm⟩ := h.own K hK
  have hx' := hx
  rw [hV] at hx'
  obtain ⟨o1, g1⟩ := World.ownsRow.stored hx' k (.int .i64 (-9000 - (K : Int)))
  refine ⟨h.keep.grown g1 (fun b e => .inl ⟨K, hK, by rw [hb, e]⟩), fun j hj => ?_⟩
  by_cases e : j = K
  · subst e
    rw [hV]
    refine ⟨_, o1, fun t ht => ?_⟩
    unfold doneR at ht
    rw [if_neg (by omega), if_pos rfl] at ht
    have lx := hx.1
    by_cases e2 : t = k
    · subst e2
      rw [List.getElem?_set_self (by rw [lx]; omega)]
      rfl
    · rw [List.getElem?_set_ne (by omega)]
      refine hm t ?_
      unfold doneR
      rw [if_neg (by omega), if_pos rfl]
      omega
  · obtain ⟨ys, hy, hn⟩ := h.own j hj
    have ne : (V j).ownBlock = none ∨ (V j).ownBlock ≠ some g := by
      right
      intro e'
      have a1 := hL.ow j g hj e'
      have a2 := hL.ow K g hK hb
      omega
    refine ⟨ys, hy.kept g1 ne, fun t ht => hn t ?_⟩
    unfold doneR at ht ⊢
    by_cases c : j < K
    · rw [if_pos c] at ht ⊢; exact ht
    · rw [if_neg c, if_neg e] at ht; omega
/-! ### Grown, one place behind the other -/
structure P2I (base N : Nat) (V : Nat → Value) (ln : Nat → Nat) (w W : World) (K M : Nat) (Gs : List Value) (O : Nat → Nat) : Prop where
  keep : KeepS (SB N V) w W
  old : ∀ j h, j < N → (V j).ownBlock = some h → ∀ t, t < ln j → W.cell? ⟨h, t, none⟩ = some (mkI j t)
  ow : ∀ j h, j < N → (V j).ownBlock = some h → O h = j ∧ h < w.heap.size
  gs : ∀ j, j < K → ∃ G, Gs[j]? = some G ∧ OwnI W base G (ln j + 20) (marksI j (ln j + 20)) ∧ ∀ h, G.ownBlock = some h → O h = j
  rest : ∀ j, M ≤ j → j < N → OwnI W base (V j) (ln j) (marksI j (ln j))
theorem marks_ofI {j n : Nat} {xs : List Value} (hl : xs.length = n) (h : ∀ t, t < n → xs[t]? = some (mkI j t)) : xs = marksI j n := by
  apply List.ext_getElem?
  intro t
  by_cases c : t < n
  · rw [h t c, marksI_get c]
  · rw [List.getElem?_eq_none (by omega), List.getElem?_eq_none (by rw [marksI_len]; omega)]
theorem P2I.start {base N : Nat} {V : Nat → Value} {ln : Nat → Nat} {O : Nat → Nat} {w W : World} (hL : Lists base N V ln O) (hlt : ∀ j h, j < N → (V j).ownBlock = some h → h < w.heap.size) (h : P1I base N V ln w W N 0) : P2I base N V ln w W 0 0 [] O := by
  have own : ∀ j, j < N → OwnI W base (V j) (ln j) (marksI j (ln j)) := fun j hj => by
    obtain ⟨xs, hx, hm⟩ := h.own j hj
    have : xs = marksI j (ln j) := marks_ofI (by have := hx.1; omega) (fun t ht => hm t (by unfold doneR; rw [if_pos hj]; exact ht))
    rw [← this]
    exact hx
  refine ⟨h.keep, fun j b hj e t ht => ?_, fun j b hj e => ⟨hL.ow j b hj e, hlt j b hj e⟩, fun j hj => absurd hj (Nat.not_lt_zero _), fun j _ hj => own j hj⟩
  have := (own j hj).cells e t _ (marksI_get ht)
  rw [Go.WideShapes.add_plain, Nat.zero_add] at this; exact this
/-- What becomes of all but the list that is being grown. -/
theorem P2I.alloc {base N : Nat} {V : Nat → Value} {ln : Nat → Nat} {O : Nat → Nat} {w W : World} {K M : Nat} {Gs : List Value} (h : P2I base N V ln w W K M Gs O) (o : Obj) : P2I base N V ln w (W.alloc o) K M Gs O :=
  ⟨h.keep.below (single W o), fun j b hj e t ht => kc _ _ (single W o) (h.old j b hj e t ht), h.ow, fun j hj => by
    obtain ⟨G, a, b, c⟩ := h.gs j hj
    exact ⟨G, a, b.alloc _, c⟩, fun j h1 h2 => (h.rest j h1 h2).alloc _⟩
/-- The list that is being grown. -/
structure CurI (base K n : Nat) (W : World) (v : Value) (O : Nat → Nat) : Prop where
  own : OwnI W base v n (marksI K n)
  ow : ∀ h, v.ownBlock = some h → O h = K
theorem own_ltI {W : World} {base n h : Nat} {v : Value} {xs : List Value} (k : OwnI W base v n xs) (e : v.ownBlock = some h) : h < W.heap.size := (k.lt h e).2
theorem P2I.grow {base N : Nat} {V : Nat → Value} {ln : Nat → Nat} {O : Nat → Nat} {w W W' : World} {K k : Nat} {Gs : List Value} {v v' : Value} (hK : K < N) (h : P2I base N V ln w W K (K + 1) Gs O) (c : CurI base K (ln K + k) W v O)
    (ho : OwnI W' base v' (ln K + k + 1) (marksI K (ln K + k + 1))) (hc : (v'.ownBlock = v.ownBlock ∧ v.ownBlock ≠ none ∧ W.grownBy W' v.ownBlock) ∨ (v'.ownBlock = some W.heap.size ∧ W.grownBy W' none)) (hb : ∀ b, v.ownBlock = some b → SB N V b ∨ w.heap.size ≤ b) :
    ∃ O', P2I base N V ln w W' K (K + 1) Gs O' ∧ CurI base K (ln K + k + 1) W' v' O' ∧ ∀ b, v'.ownBlock = some b → SB N V b ∨ w.heap.size ≤ b := by
  rcases hc with ⟨e1, e2, hg⟩ | ⟨e1, hg⟩
  · -- in its place
    obtain ⟨b, eb⟩ := Option.ne_none_iff_exists'.1 e2
    have Ob := c.ow b eb
    refine ⟨O, ⟨h.keep.grown hg (fun x ex => hb x ex), fun j x hj ex t ht => ?_, h.ow, fun j hj => ?_, fun j h1 h2 => ?_⟩, ⟨ho, fun x ex => c.ow x (by rw [← e1]; exact ex)⟩, fun x ex => hb x (by rw [← e1]; exact ex)⟩
    · by_cases ej : x = b
      · subst ej
        have a1 := (h.ow j x hj ex).1
        have ejK : j = K := by omega
        subst ejK
        have := ho.cells (g := x) (by rw [e1, eb]) t _ (marksI_get (by omega))
        rw [Go.WideShapes.add_plain, Nat.zero_add] at this; exact this
      · have hx := World.block_lt_of_cell? _ _ (h.old j x hj ex t ht)
        rw [World.cell?_of_block (a := ⟨x, t, none⟩) (hg.block x hx (by rw [eb]; intro e; injection e with e; exact ej e))]
        exact h.old j x hj ex t ht
    · obtain ⟨G, q1, q2, q3⟩ := h.gs j hj
      refine ⟨G, q1, q2.kept hg (.inr ?_), q3⟩
      rw [eb]
      intro e
      have := q3 b e
      omega
    · refine (h.rest j h1 h2).kept hg (.inr ?_)
      rw [eb]
      intro e
      have := (h.ow j b h2 e).1
      omega
  · -- in a new one
    have sz := h.keep.size
    have kept : ∀ {v : Value} {n : Nat} {xs : List Value}, OwnI W base v n xs → OwnI W' base v n xs := fun q => q.kept hg (by
      rename_i v0 _ _
      cases hv : v0.ownBlock
      · exact .inl rfl
      · exact .inr (by simp))
    refine ⟨fun x => if x = W.heap.size then K else O x, ⟨h.keep.grown hg (fun x ex => by cases ex), fun j x hj ex t ht => ?_, fun j x hj ex => ?_, fun j hj => ?_, fun j h1 h2 => kept (h.rest j h1 h2)⟩, ⟨ho, fun x ex => ?_⟩, fun x ex => ?_⟩
    · have hx := World.block_lt_of_cell? _ _ (h.old j x hj ex t ht)
      rw [World.cell?_of_block (a := ⟨x, t, none⟩) (hg.block x hx (by simp))]
      exact h.old j x hj ex t ht
    · obtain ⟨a1, a2⟩ := h.ow j x hj ex
      rw [if_neg (by omega)]
      exact ⟨a1, a2⟩
    · obtain ⟨G, q1, q2, q3⟩ := h.gs j hj
      refine ⟨G, q1, kept q2, fun x ex => ?_⟩
      have := own_ltI q2 ex
      rw [if_neg (by omega)]
      exact q3 x ex
    · rw [e1] at ex
      injection ex with ex
      rw [if_pos ex.symm]
    · rw [e1] at ex
      injection ex with ex
      exact .inr (by omega)
theorem P2I.done {base N : Nat} {V : Nat → Value} {ln : Nat → Nat} {O : Nat → Nat} {w W W' : World} {K : Nat} {Gs : List Value} {v : Value} (hK : K < N) (hl : Gs.length = K) (h : P2I base N V ln w W K (K + 1) Gs O) (c : CurI base K (ln K + 20) W v O) : P2I base N V ln w W (K + 1) (K + 1) (Gs ++ [v]) O :=
  ⟨h.keep, h.old, h.ow, fun j hj => by
    by_cases e : j = K
    · subst e
      exact ⟨v, by rw [List.getElem?_append_right (by omega), hl, Nat.sub_self]; rfl, c.own, c.ow⟩
    · obtain ⟨G, q1, q2, q3⟩ := h.gs j (by omega)
      exact ⟨G, by rw [List.getElem?_append_left (by omega)]; exact q1, q2, q3⟩, h.rest⟩
theorem P2I.enter {base N : Nat} {V : Nat → Value} {ln : Nat → Nat} {O : Nat → Nat} {w W : World} {K : Nat} {Gs : List Value} (hK : K < N) (h : P2I base N V ln w W K K Gs O) : P2I base N V ln w W K (K + 1) Gs O ∧ CurI base K (ln K + 0) W (V K) O ∧ ∀ b, (V K).ownBlock = some b → SB N V b ∨ w.heap.size ≤ b :=
  ⟨⟨h.keep, h.old, h.ow, h.gs, fun j h1 h2 => h.rest j (by omega) h2⟩, ⟨h.rest K (Nat.le_refl _) hK, fun x ex => (h.ow K x hK ex).1⟩, fun b e => .inl ⟨K, hK, e⟩⟩
/-- A world that has grown elsewhere. -/
theorem P2I.away {base N : Nat} {V : Nat → Value} {ln : Nat → Nat} {O : Nat → Nat} {w W W' : World} {K M : Nat} {Gs : List Value} {r : Option Nat} (h : P2I base N V ln w W K M Gs O) (hg : W.grownBy W' r) (hr : ∀ b, r = some b → w.heap.size ≤ b) (ha : ∀ {v : Value} {n : Nat} {xs : List Value}, OwnI W base v n xs → v.ownBlock = none ∨ v.ownBlock ≠ r) (hV : ∀ j b, j < N → (V j).ownBlock = some b → some b ≠ r) : P2I base N V ln w W' K M Gs O :=
  ⟨h.keep.grown hg (fun b e => .inr (hr b e)), fun j x hj ex t ht => by
    have hx := World.block_lt_of_cell? _ _ (h.old j x hj ex t ht)
    rw [World.cell?_of_block (a := ⟨x, t, none⟩) (hg.block x hx (hV j x hj ex))]
    exact h.old j x hj ex t ht, h.ow, fun j hj => by
    obtain ⟨G, q1, q2, q3⟩ := h.gs j hj
    exact ⟨G, q1, q2.kept hg (ha q2), q3⟩, fun j h1 h2 => (h.rest j h1 h2).kept hg (ha (h.rest j h1 h2))⟩
theorem info_intsE : (Tryd.prog.info? 3).map (fun i => (i.zero, i.size, i.bytes)) = some (some (.int .i64 0), 1, 8) := by kernel_rfl
theorem info_intsL : (Tryd.prog.info? 26).map (fun i => (i.zero, i.size, i.bytes)) = some (some (.slice none 0 0), 1, 24) := by kernel_rfl
set_option maxHeartbeats 4000000 in
theorem aloneInts_any (base N Bk capR : Nat) (V : Nat → Value) (ln O : Nat → Nat) (ad : Option Addr) (w : World) (hL : Lists base N V ln O) (hbase : base ≤ w.heap.size) (hbk : w.cell? ⟨Bk, 2, none⟩ = some (.slice ad N capR)) (nbk : ¬ SB N V Bk)
    (hrow : ∀ i, i < N → ∃ R, ad = some ⟨R, 0, none⟩ ∧ ¬ SB N V R ∧ w.cell? ⟨R, i, none⟩ = some (V i)) (hown : ∀ j, j < N → ∃ xs, OwnI w base (V j) (ln j) xs) :
    Calls Tryd.prog 24 #[.pointer (some ⟨Bk, 0, none⟩)] w fun e w' => e = .returned (.bool true) ∧ KeepS (SB N V) w w' := by
  obtain ⟨i0, hi, hz0, hz1, hz2⟩ := info_parts info_intsE
  obtain ⟨j0, hj, hy0, hy1, hy2⟩ := info_parts info_intsL
  have nn := hL.nn
  have HB := hideR hbk
  have HR := hideR hrow
  have HO := hideR hown
  have HL := hideR hL
  have HN := hideR nbk
  have HS := hideR hbase
  have hlt : Hid (∀ j h, j < N → (V j).ownBlock = some h → h < w.heap.size) := fun j h hj e => by
    obtain ⟨xs, hx⟩ := hown j hj
    exact own_ltI hx e
  clear hbk hrow hown hL nbk hbase
  go_enter Tryd.func24, Tryd.ntmps24
  go_wp2_with fail
  go_loopw [3] (fun s wr => ∃ (K : Nat), K ≤ N ∧ s = .int .i64 (K : Int) ∧ Hid (P1I base N V ln w wr K 0)) (fun s _ => N - (intOf s).toNat)
  case atStart => exact ⟨0, Nat.zero_le _, rfl, P1I.start HO.out⟩
  case round =>
    obtain ⟨K, hK, rfl, h1⟩ := hrel
    have b5 := h1.out.keep.cell HN.out HB.out
    by_cases ck : K < N
    · obtain ⟨R, rfl, nr, cr⟩ := HR.out K ck
      have cr := h1.out.keep.cell nr cr
      obtain ⟨xs, ox, -⟩ := h1.out.own K ck
      obtain ⟨av, cv, eV, -⟩ := own_isS ox
      rw [eV] at cr
      have k0 : (K : Int) < (N : Int) := by omega
      have k1 : (0 : Int) ≤ (K : Int) := by omega
      have l1 : ln K ≤ 140737488355328 := by have := HL.out.le K ck; omega
      have Nr := hideR nr
      have EV := hideR eV
      clear ox eV nr xs
      obtain ⟨wb, hwb⟩ : ∃ wb, wb = wr := ⟨_, rfl⟩
      rw [← hwb] at h1 b5 cr ⊢
      clear hwb wr
      go_wp2_with fail
      go_loopw [4] (fun s wq => ∃ (k : Nat), k ≤ ln K ∧ s = .int .i64 (k : Int) ∧ Hid (P1I base N V ln w wq K k)) (fun s _ => ln K - (intOf s).toNat)
      case atStart => exact ⟨0, Nat.zero_le _, rfl, h1⟩
      case round =>
        obtain ⟨k, hk, rfl, h2⟩ := hrel
        have b5 := h2.out.keep.cell HN.out HB.out
        obtain ⟨R', eR, -, cr⟩ := HR.out K ck
        injection eR with eR
        injection eR with eR
        subst eR
        have cr := h2.out.keep.cell Nr.out cr
        rw [EV.out] at cr
        by_cases cl : k < ln K
        · obtain ⟨xs, ox, -⟩ := h2.out.own K ck
          obtain ⟨g, cap', eV⟩ := own_some ox (by omega)
          rw [eV] at ox
          have eV' := EV.out.symm.trans eV
          injection eV' with e1 e2 e3
          subst e1 e3
          have c0 := ox.cellAt k (by omega)
          have f0 := ox.frozenAt k
          obtain ⟨x0, e0⟩ : ∃ x0, xs[k]? = some x0 := ⟨_, List.getElem?_eq_getElem (by rw [ox.1]; omega)⟩
          rw [e0] at c0
          have k2 : (k : Int) < (ln K : Int) := by omega
          have k3 : (0 : Int) ≤ (k : Int) := by omega
          have nx := hideR (h2.out.put HL.out ck cl eV)
          clear ox eV e0 xs h2
          go_wp2_with fail
          go_roundw
          case rel => exact ⟨k + 1, by omega, by go_num, nx⟩
          case measure => simp [intOf]; omega
        · have ek : k = ln K := by omega
          have k2 : ¬ (k : Int) < (ln K : Int) := by omega
          have nx := hideR (h2.out.next (by omega))
          clear h2
          go_wp2_with fail
          go_roundw
          case rel => exact ⟨K + 1, by omega, by go_num, nx⟩
          case measure => simp [intOf]; omega
    · have eK : K = N := by omega
      have k0 : ¬ (K : Int) < (N : Int) := by omega
      rw [eK] at h1
      have h2 := hideR (P2I.start HL.out hlt.out h1.out)
      clear eK h1
      go_wp2_with fail
      go_loopw [5, 6] (fun a s wr => ∃ (K : Nat) (v : Value) (Gs : List Value) (O' : Nat → Nat), K ≤ N ∧ a = v ∧ s = .int .i64 (K : Int) ∧ Hid (wr.ownsRow w.heap.size 26 1 v K Gs) ∧ Hid (P2I base N V ln w wr K K Gs O')) (fun _ s _ => N - (intOf s).toNat)
      case atStart => exact ⟨0, _, [], O, Nat.zero_le _, rfl, rfl, World.ownsRow_nil _ _ _ _, h2⟩
      case round =>
        obtain ⟨K, v, Gs, O', hK, hv, rfl, ho, h2⟩ := hrel
        replace hv := hv.symm
        subst hv
        have b5 := h2.out.keep.cell HN.out HB.out
        by_cases ck : K < N
        · obtain ⟨R, rfl, nr, cr⟩ := HR.out K ck
          have cr := h2.out.keep.cell nr cr
          have k0 : (K : Int) < (N : Int) := by omega
          have k1 : (0 : Int) ≤ (K : Int) := by omega
          have l1 : (ln K + 20) * 16 ≤ 140737488355328 := HL.out.le K ck
          have h3 := hideR (h2.out.enter ck)
          clear nr h2
          obtain ⟨wb, hwb⟩ : ∃ wb, wb = wr := ⟨_, rfl⟩
          rw [← hwb] at h3 b5 cr ho ⊢
          clear hwb wr
          go_wp2_with fail
          go_loopw [7, 8] (fun g s wq => ∃ (k : Nat) (v' : Value) (O'' : Nat → Nat), k ≤ 20 ∧ g = v' ∧ s = .int .i64 (k : Int) ∧ Hid (wq.ownsRow w.heap.size 26 1 v K Gs) ∧ Hid (P2I base N V ln w wq K (K + 1) Gs O'' ∧ CurI base K (ln K + k) wq v' O'' ∧ ∀ b, v'.ownBlock = some b → SB N V b ∨ w.heap.size ≤ b)) (fun _ s _ => 20 - (intOf s).toNat)
          case atStart => exact ⟨0, _, O', by omega, rfl, rfl, ho, h3⟩
          case round =>
            obtain ⟨k, v', O'', hk, hv, rfl, ho2, h4⟩ := hrel
            replace hv := hv.symm
            subst hv
            by_cases cl : k < 20
            · have k2 : (k : Int) < 20 := by omega
              obtain ⟨p2, cu, sb⟩ := h4.out
              have hbs : base ≤ wr.heap.size := Nat.le_trans HS.out p2.keep.size
              clear h4
              go_wp2_with (at_builtin; refine wp_app_two _ rfl _ _ 26 rfl base 3 i0 (.int .i64 0) 1 8 Tryd.underlying26 hi hz0 hz1 hz2 rfl (by decide) v' (ln K + k) _ rfl (cu.own.alloc _) _ 1 [.int .i64 (-9000 - (K : Int))] rfl rfl (cell_one_new _ _ _) (by simp [Value.oneCell']) (by unfold maxLen; omega) (by omega) (by simp; omega) ?_; intro v3 w7 hown hc)
              have own' : OwnI w7 base v3 (ln K + k + 1) (marksI K (ln K + k + 1)) := by rw [marksI_succ]; exact hown
              obtain ⟨O3, q1, q2, q3⟩ := P2I.grow ck (p2.alloc _) ⟨cu.own.alloc _, cu.ow⟩ own' hc sb
              have ho3 : Hid (w7.ownsRow w.heap.size 26 1 v K Gs) := by
                rcases hc with ⟨e1, e2, hg⟩ | ⟨e1, hg⟩
                · exact (ho2.out.alloc (.cells #[.int .i64 (-9000 - (K : Int))] 3)).kept hg (own_types ho2.out cu.own (by decide))
                · exact (ho2.out.alloc (.cells #[.int .i64 (-9000 - (K : Int))] 3)).kept hg (by cases v.ownBlock <;> simp)
              have h5 := hideR (And.intro q1 (And.intro q2 q3))
              clear hown hc own' q1 q2 q3 p2 cu sb ho2
              go_wp2_with fail
              go_roundw
              case rel => exact ⟨k + 1, v3, O3, by omega, rfl, by go_num, ho3, h5⟩
              case measure => simp [intOf]; omega
            · have ek : k = 20 := by omega
              subst ek
              obtain ⟨p2, cu, sb⟩ := h4.out
              have hlen : Gs.length = K := by have := ho2.out.1; omega
              have p3 := p2.done (W' := wr) ck hlen cu
              obtain ⟨g', cap', ev'⟩ := own_some cu.own (by omega)
              replace ev' := ev'.symm
              subst ev'
              have hws : w.heap.size ≤ wr.heap.size := p2.keep.size
              have hr : ∀ b, v.ownBlock = some b → w.heap.size ≤ b := fun b e => (ho2.out.lt b e).1
              clear h4 p2 cu sb
              go_wp2_with (at_builtin; refine wp_app_two _ rfl _ _ 36 rfl w.heap.size 26 j0 (.slice none 0 0) 1 24 Tryd.underlying36 hj hy0 hy1 hy2 rfl (by decide) v K Gs rfl (ho2.out.alloc _) _ 1 [.slice (some ⟨g', 0, none⟩) (ln K + 20) cap'] rfl rfl (cell_one_new _ _ _) (by simp [Value.oneCell']) (by unfold maxLen; omega) (by omega) (by simp; omega) ?_; intro v3 w7 hown hc)
              have p4 : Hid (P2I base N V ln w w7 (K + 1) (K + 1) (Gs ++ [.slice (some ⟨g', 0, none⟩) (ln K + 20) cap']) O'') := by
                rcases hc with ⟨e1, e2, hg⟩ | ⟨e1, hg⟩
                · exact (p3.alloc _).away hg hr (fun q => own_types q (ho2.out.alloc _) (by decide)) (fun j b hj e ee => by have := (p3.ow j b hj e).2; have := hr b ee.symm; omega)
                · exact (p3.alloc _).away hg (fun b e => by cases e) (fun {v0 _ _} q => by
                    cases hv : v0.ownBlock
                    · exact .inl rfl
                    · exact .inr (by simp)) (fun j b hj e ee => by cases ee)
              have ho3 := hideR hown
              clear hown hc p3 hr ho2 hlen
              go_wp2_with fail
              go_roundw
              case rel => exact ⟨K + 1, v3, _, O'', by omega, rfl, by go_num, ho3, p4⟩
              case measure => simp [intOf]; omega
        · have eK : K = N := by omega
          have k0 : ¬ (K : Int) < (N : Int) := by omega
          rw [eK] at h2 ho
          clear eK
          obtain ⟨av, cv, rfl, hav⟩ := own_isS ho.out
          have hc : Hid (∀ i, i < N → ∃ A G, av = some ⟨A, 0, none⟩ ∧ Gs[i]? = some G ∧ wr.cell? ⟨A, i, none⟩ = some G ∧ OwnI wr base G (ln i + 20) (marksI i (ln i + 20))) := fun i hi => by
            obtain ⟨G, g1, g2, -⟩ := h2.out.gs i hi
            obtain ⟨A, cA, e⟩ := own_some ho.out (by omega)
            injection e with e1 e2 e3
            subst e1
            have := ho.out.cellAt i (by omega)
            exact ⟨A, G, rfl, g1, by rw [this, g1], g2⟩
          clear ho hav
          go_wp2_with fail
          go_loopw [9] (fun s wq => ∃ (I : Nat), I ≤ N ∧ s = .int .i64 (I : Int) ∧ wq = wr) (fun s _ => N - (intOf s).toNat)
          case atStart => exact ⟨0, Nat.zero_le _, rfl, rfl⟩
          case round =>
            obtain ⟨I, hI, rfl, rfl⟩ := hrel
            by_cases ci : I < N
            · obtain ⟨A, G, rfl, -, ca, og⟩ := hc.out I ci
              obtain ⟨gb, gc, rfl⟩ := own_some og (by omega)
              have i0' : (I : Int) < (N : Int) := by omega
              have i1' : (0 : Int) ≤ (I : Int) := by omega
              have HC := hideR (fun k (hk : k < ln I + 20) => show wr.cell? ⟨gb, k, none⟩ = some (.int .i64 (-9000 - (I : Int))) by rw [og.cellAt k (by omega), marksI_get (by omega)]; rfl)
              have l1 : (ln I + 20) * 16 ≤ 140737488355328 := HL.out.le I ci
              have b5 := h2.out.keep.cell HN.out HB.out
              obtain ⟨R, rfl, nr, cr⟩ := HR.out I ci
              have cr := h2.out.keep.cell nr cr
              have old := h2.out.old I
              obtain ⟨xs, ox⟩ := HO.out I ci
              obtain ⟨vb, vc, eV, hvb⟩ := own_isS ox
              have hv : Hid (∀ k, k < ln I → ∃ g, vb = some ⟨g, 0, none⟩ ∧ wr.cell? ⟨g, k, none⟩ = some (.int .i64 (-9000 - (I : Int)))) := fun k hk => by
                obtain ⟨g, gc', eg⟩ := own_some ox (by omega)
                have eb : (V I).ownBlock = some g := by rw [eg]; rfl
                exact ⟨g, hvb g eb, by rw [old g ci eb k (by omega)]; rfl⟩
              rw [eV] at cr
              clear og ox eV hvb nr old xs
              go_wp2_with fail
              go_loopw [10] (fun s wq => ∃ (k : Nat), k ≤ ln I + 20 ∧ s = .int .i64 (k : Int) ∧ wq = wr) (fun s _ => ln I + 20 - (intOf s).toNat)
              case atStart => exact ⟨0, Nat.zero_le _, rfl, rfl⟩
              case round =>
                obtain ⟨k, hk, rfl, rfl⟩ := hrel
                by_cases cl : k < ln I + 20
                · have c0 := HC.out k cl
                  have k2 : (k : Int) < (ln I : Int) + 20 := by omega
                  have k3 : (0 : Int) ≤ (k : Int) := by omega
                  go_wp2_with fail
                  go_roundw
                  case rel => exact ⟨k + 1, by omega, by go_num, by first | rfl | trivial⟩
                  case measure => simp [intOf]; omega
                · have k2 : ¬ (k : Int) < (ln I : Int) + 20 := by omega
                  clear HC
                  go_wp2_with fail
                  go_loopw [11] (fun s wq => ∃ (k : Nat), k ≤ ln I ∧ s = .int .i64 (k : Int) ∧ wq = wr) (fun s _ => ln I - (intOf s).toNat)
                  case atStart => exact ⟨0, Nat.zero_le _, rfl, by first | rfl | trivial⟩
                  case round =>
                    obtain ⟨k, hk, rfl, rfl⟩ := hrel
                    by_cases cl : k < ln I
                    · obtain ⟨g, rfl, c0⟩ := hv.out k cl
                      have k2 : (k : Int) < (ln I : Int) := by omega
                      have k3 : (0 : Int) ≤ (k : Int) := by omega
                      go_wp2_with fail
                      go_roundw
                      case rel => exact ⟨k + 1, by omega, by go_num, by first | rfl | trivial⟩
                      case measure => simp [intOf]; omega
                    · have k2 : ¬ (k : Int) < (ln I : Int) := by omega
                      go_wp2_with fail
                      go_roundw
                      case rel => exact ⟨I + 1, by omega, by go_num, by first | rfl | trivial⟩
                      case measure => simp [intOf]; omega
            · have i0' : ¬ (I : Int) < (N : Int) := by omega
              have kp := hideR h2.out.keep
              go_wp2_with fail
              go_ret
              exact ⟨rfl, kp.out⟩
end Go.Proofs.YtgidlgmnkjoofaaDoor
