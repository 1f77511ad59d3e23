/-
  Lists of one's own: blocks that may change, a list with marks, one element more.
-/
import Derived.Test.YtondgencdcimjaaGreatZw
import Derived.Laws.OwnMore
import Derived.Maps.AppendAt
namespace Go.Proofs.YtondgencdcimjaaGreat
open Go.RowKit Go.Shelf
set_option linter.unusedVariables false
set_option maxRecDepth 100000
/-- Blocks that may change; all others stay. -/
structure KeepS (S : Nat → Prop) (w w' : World) : Prop where
  os : w'.os = w.os
  tape : w'.tape = w.tape
  output : w'.output = w.output
  size : w.heap.size ≤ w'.heap.size
  block : ∀ k, k < w.heap.size → ¬ S k → w'.heap[k]? = w.heap[k]?
theorem KeepS.refl (S : Nat → Prop) (w : World) : KeepS S w w := ⟨rfl, rfl, rfl, Nat.le_refl _, fun _ _ _ => rfl⟩
theorem KeepS.trans {S : Nat → Prop} {w w1 w2 : World} (h : KeepS S w w1) (k : KeepS S w1 w2) : KeepS S w w2 :=
  ⟨k.os.trans h.os, k.tape.trans h.tape, k.output.trans h.output, Nat.le_trans h.size k.size, fun i hi hs => (k.block i (Nat.lt_of_lt_of_le hi h.size) hs).trans (h.block i hi hs)⟩
theorem KeepS.below {S : Nat → Prop} {w w1 w2 : World} (h : KeepS S w w1) (k : Below w1.heap.size w1 w2) : KeepS S w w2 :=
  h.trans ⟨k.os, k.tape, k.output, k.size, fun i hi _ => k.block i hi⟩
theorem KeepS.grown {S : Nat → Prop} {w w1 w2 : World} {r : Option Nat} (h : KeepS S w w1) (k : w1.grownBy w2 r) (hr : ∀ b, r = some b → S b ∨ w.heap.size ≤ b) : KeepS S w w2 :=
  ⟨k.os.trans h.os, k.tape.trans h.tape, k.output.trans h.output, Nat.le_trans h.size k.size, fun i hi hs => (k.block i (Nat.lt_of_lt_of_le hi h.size) (fun e => by
    rcases hr i e.symm with h | h
    · exact hs h
    · omega)).trans (h.block i hi hs)⟩
theorem KeepS.toBelow {S : Nat → Prop} {w w' : World} {B : Nat} (h : KeepS S w w') (hB : B ≤ w.heap.size) (hS : ∀ k, S k → B ≤ k) : Below B w w' :=
  ⟨h.os, h.tape, h.output, h.size, fun k hk => h.block k (by omega) (fun s => by have := hS k s; omega)⟩
theorem KeepS.cell {S : Nat → Prop} {w w' : World} {b k : Nat} {v : Value} (h : KeepS S w w') (hs : ¬ S b) (c : w.cell? ⟨b, k, none⟩ = some v) : w'.cell? ⟨b, k, none⟩ = some v := by
  have hb := World.block_lt_of_cell? _ _ c
  have := h.block b hb hs
  rw [World.cell?_of_block (a := ⟨b, k, none⟩) this]
  exact c
/-- One element more, where there is room, and where there is none: then the old row stays as it was. -/
theorem run_app_two {P : Program} (w : World) (base : Nat) (t ty e : TypeId) (i : TypeInfo) (z : Value) (size bytes : Nat) (ht : P.underlying t = some (.slice e)) (hi : P.info? e = some i) (hz : i.zero = some z)
    (hsize : i.size = size) (hby : i.bytes = bytes) (hzs : z.cells.size = size) (hsz : 0 < size)
    (v : Value) (n : Nat) (xs : List Value) (hown : w.ownsRow base e size v n xs)
    (a : Addr) (c : Nat) (news : List Value) (hl : news.length = size) (hnews : ∀ j u, news[j]? = some u → w.cell? (a.add j) = some u) (h1 : ∀ u ∈ news, u.oneCell' = true)
    (h63 : n + 1 ≤ maxLen) (hbytes : (n + 1) * bytes ≤ 140737488355328) (hbase : base ≤ w.heap.size) :
    ∃ v' w', (Builtin.append_ #[t, t] ty #[v, .slice (some a) 1 c]).run P w = .ok v' w' ∧ w'.ownsRow base e size v' (n + 1) (xs ++ news) ∧
      ((v'.ownBlock = v.ownBlock ∧ v.ownBlock ≠ none ∧ w.grownBy w' v.ownBlock) ∨ (v'.ownBlock = some w.heap.size ∧ w.grownBy w' none)) := by
  have hl1 : news.length = 1 * size := by omega
  have hm : n + 1 ≤ 9223372036854775807 := by simp only [maxLen] at h63; omega
  have room : ∀ old : Nat, old < n + 1 → (w.drew.alloc (.cells (xs.toArray ++ news.toArray ++ Builtin.zeroCells z.cells (grownCap w (n + 1) old e - (n + 1))) e)).ownsRow base e size (.slice (some ⟨w.heap.size, 0, none⟩) (n + 1) (grownCap w (n + 1) old e)) (n + 1) (xs ++ news) := fun old ho => by
    have ge := grownCap_ge w (n + 1) old e
    have le := grownCap_le_maxLen w (n + 1) old e h63
    have lx : (xs ++ news).length = (n + 1) * size := by rw [List.length_append, hown.1, hl, Nat.add_mul, Nat.one_mul]
    refine ⟨lx, .inr ⟨w.heap.size, _, _, rfl, hbase, heap_alloc_new w.drew _, ge, le, ?_, ?_⟩⟩
    · simp only [Array.size_append, List.size_toArray, size_zeroCells, hzs]
      rw [← List.length_append, lx, ← Nat.add_mul]
      congr 1
      omega
    · simp only [Array.toList_append]
      rw [← lx]
      exact List.take_left
  have fresh : ∀ o : Obj, w.grownBy (w.drew.alloc o) none := fun o => ⟨rfl, rfl, rfl, by simp, fun k hk _ => heap_alloc_old w.drew _ hk⟩
  subst hsize hby
  rcases hown.2 with ⟨rfl, rfl⟩ | ⟨g, cap, cur, rfl, hbg, hg, hnc, hcm, hcs, htake⟩
  · have hx : xs = [] := List.eq_nil_of_length_eq_zero (by simpa using hown.1)
    subst hx
    have hr := run_append_nil (P := P) w t ty e i z ht hi hz a 1 c news hl1 hnews (by omega) (by omega) (by omega)
    have own := room 0 (by omega)
    simp only [Nat.zero_add, List.nil_append, Array.empty_append] at own ⊢
    exact ⟨_, _, hr, own, .inr ⟨rfl, fresh _⟩⟩
  · by_cases hroom : n + 1 ≤ cap
    · obtain ⟨w', hr, ho, hgr⟩ := run_append_fits (P := P) w base t ty e i i.size ht hi rfl g n cap xs hown a 1 c news hl1 hnews h1 hroom
      exact ⟨_, w', hr, ho, .inl ⟨rfl, by simp [Value.ownBlock], hgr⟩⟩
    · have holds : ∀ j u, xs[j]? = some u → w.cell? ((⟨g, 0, none⟩ : Addr).add j) = some u := hown.cells (g := g) rfl
      have hr := run_append_grow (P := P) w t ty e i z ht hi hz ⟨g, 0, none⟩ n cap xs hown.1 holds a 1 c news hl1 hnews (by omega) (by omega) (growslice_fits (by omega) hbytes)
      exact ⟨_, _, hr, room cap (by omega), .inr ⟨rfl, fresh _⟩⟩
/-- At the operation. -/
theorem wp_app_two {P : Program} (w : World) {ops : Array Oper} {rest : List Oper} {o : Oper} {a : Act} {Q : Exit → Act → World → Prop} (hgd : o.guard = none) (s x : Operand) (t : TypeId)
    (ho : o.op = .call { callee := .builtin .append, args := #[s, x], argTypes := #[t, t] })
    (base : Nat) (e : TypeId) (i : TypeInfo) (z : Value) (size bytes : Nat) (ht : P.underlying t = some (.slice e)) (hi : P.info? e = some i) (hz : i.zero = some z)
    (hsize : i.size = size) (hby : i.bytes = bytes) (hzs : z.cells.size = size) (hsz : 0 < size)
    (v : Value) (n : Nat) (xs : List Value) (hs : a.eval s = v) (hown : w.ownsRow base e size v n xs)
    (ad : Addr) (c : Nat) (news : List Value) (hx : a.eval x = .slice (some ad) 1 c) (hl : news.length = size) (hnews : ∀ j u, news[j]? = some u → w.cell? (ad.add j) = some u) (h1 : ∀ u ∈ news, u.oneCell' = true)
    (h63 : n + 1 ≤ maxLen) (hbytes : (n + 1) * bytes ≤ 140737488355328) (hbase : base ≤ w.heap.size)
    (h : ∀ v' w', w'.ownsRow base e size v' (n + 1) (xs ++ news) → ((v'.ownBlock = v.ownBlock ∧ v.ownBlock ≠ none ∧ w.grownBy w' v.ownBlock) ∨ (v'.ownBlock = some w.heap.size ∧ w.grownBy w' none)) → wpList P ops Q rest (a.put o.dst v') w') :
    wpList P ops Q (o :: rest) a w := by
  refine wpList_plain hgd fun K hK => ?_
  obtain ⟨v', w', hr, h2, h3⟩ := run_app_two (P := P) w base t o.type e i z size bytes ht hi hz hsize hby hzs hsz v n xs hown ad c news hl hnews h1 h63 hbytes hbase
  unfold Oper.wp execOp
  simp only [ho, resolve, invoke, builtin, Sem.run_bind, Sem.run_pure, Result.andThen_ok, List.map_toArray, List.map_cons, List.map_nil, hs, hx, hr]
  exact hK _ _ (h v' w' h2 h3)
end Go.Proofs.YtondgencdcimjaaGreat

/-
  Book.aloneRats: what lies in memory, step by step.
-/
namespace Go.Proofs.YtondgencdcimjaaGreat
open Go.RowKit Go.Shelf
set_option linter.unusedVariables false
set_option maxRecDepth 100000
/-- The marks of a list of fractions. -/
def mkR (j t : Nat) : Value := if t % 2 = 0 then .int .i64 (-9000 - (j : Int)) else .int .i64 78
def marksR (j n : Nat) : List Value := (List.range (n * 2)).map (mkR j)
theorem marksR_len (j n : Nat) : (marksR j n).length = n * 2 := by simp [marksR]
theorem marksR_get {j n t : Nat} (h : t < n * 2) : (marksR j n)[t]? = some (mkR j t) := by simp [marksR, h]
theorem marksR_succ (j n : Nat) : marksR j (n + 1) = marksR j n ++ [.int .i64 (-9000 - (j : Int)), .int .i64 78] := by
  unfold marksR
  rw [Nat.add_mul, show 1 * 2 = 1 + 1 from rfl, ← Nat.add_assoc, List.range_succ, List.range_succ, List.map_append, List.map_append]
  simp only [List.map_cons, List.map_nil, List.append_assoc, List.cons_append, List.nil_append]
  congr 2
  · unfold mkR; rw [if_pos (by omega)]
  · congr 1
    unfold mkR; rw [if_neg (by omega)]
theorem mk_even (j k : Nat) : mkR j (k * 2) = .int .i64 (-9000 - (j : Int)) := by unfold mkR; rw [if_pos (by omega)]
theorem mk_odd (j k : Nat) : mkR j (k * 2 + 1) = .int .i64 78 := by unfold mkR; rw [if_neg (by omega)]
/-- What is handed over: so many lists, each of the call's own, no two in one block. -/
structure Lists (base N : Nat) (V : Nat → Value) (ln : Nat → Nat) (O : Nat → Nat) : Prop where
  ow : ∀ j h, j < N → (V j).ownBlock = some h → O h = j
  le : ∀ j, j < N → (ln j + 20) * 16 ≤ 140737488355328
  nn : N ≤ 4294967296
def SB (N : Nat) (V : Nat → Value) (h : Nat) : Prop := ∃ j, j < N ∧ (V j).ownBlock = some h
abbrev OwnR (W : World) (base : Nat) (v : Value) (n : Nat) (xs : List Value) : Prop := W.ownsRow base 24 2 v n xs
/-- How far list j is marked, with K lists and k elements of the next one done. -/
def doneR (ln : Nat → Nat) (K k j : Nat) : Nat := if j < K then ln j else if j = K then k else 0
structure P1 (base N : Nat) (V : Nat → Value) (ln : Nat → Nat) (w W : World) (K k : Nat) : Prop where
  keep : KeepS (SB N V) w W
  own : ∀ j, j < N → ∃ xs, OwnR W base (V j) (ln j) xs ∧ ∀ t, t < doneR ln K k j * 2 → xs[t]? = some (mkR j t)
theorem P1.start {base N : Nat} {V : Nat → Value} {ln : Nat → Nat} {w : World} (h : ∀ j, j < N → ∃ xs, OwnR w base (V j) (ln j) xs) : P1 base N V ln w w 0 0 :=
  ⟨KeepS.refl _ _, fun j hj => by
    obtain ⟨xs, hx⟩ := h j hj
    refine ⟨xs, hx, fun t ht => ?_⟩
    unfold doneR at ht
    rw [if_neg (by omega)] at ht
    split at ht <;> omega⟩
theorem P1.next {base N : Nat} {V : Nat → Value} {ln : Nat → Nat} {w W : World} {K k : Nat} (h : P1 base N V ln w W K k) (hk : ln K ≤ k) : P1 base N V ln w W (K + 1) 0 :=
  ⟨h.keep, fun j hj => by
    obtain ⟨xs, hx, hm⟩ := h.own j hj
    refine ⟨xs, hx, fun t ht => hm t ?_⟩
    unfold doneR at ht ⊢
    by_cases c : j < K
    · rw [if_pos c]; rw [if_pos (by omega)] at ht; exact ht
    · by_cases e : j = K
      · subst e
        rw [if_pos (by omega)] at ht
        rw [if_neg (by omega), if_pos rfl]
        omega
      · rw [if_neg (by omega)] at ht
        split at ht <;> omega⟩
theorem own_open {W : World} {base n : Nat} {v : Value} {xs : List Value} (h : OwnR W base v n xs) (hn : 0 < n) : ∃ g cap, v = .slice (some ⟨g, 0, none⟩) n cap := by
  rcases h.2 with ⟨_, h0⟩ | ⟨g, cap, cur, rfl, _⟩
  · omega
  · exact ⟨g, cap, rfl⟩
theorem P1.put {base N : Nat} {V : Nat → Value} {ln : Nat → Nat} {O : Nat → Nat} {w W : World} {K k g cap : Nat} (hL : Lists base N V ln O) (h : P1 base N V ln w W K k) (hK : K < N) (hk : k < ln K) (hV : V K = .slice (some ⟨g, 0, none⟩) (ln K) cap) :
    P1 base N V ln w ((W.setCell ⟨g, k * 2, none⟩ (.int .i64 (-9000 - (K : Int)))).setCell ⟨g, k * 2 + 1, none⟩ (.int .i64 78)) K (k + 1) := by
  have hb : (V K).ownBlock = some g := by rw [hV]; rfl
  obtain ⟨xs, hx, hm⟩ := h.own K hK
  have hx' := hx
  rw [hV] at hx'
  obtain ⟨o1, g1⟩ := World.ownsRow.stored hx' (k * 2) (.int .i64 (-9000 - (K : Int)))
  obtain ⟨o2, g2⟩ := World.ownsRow.stored o1 (k * 2 + 1) (.int .i64 78)
  refine ⟨(h.keep.grown g1 (fun b e => .inl ⟨K, hK, by rw [hb, e]⟩)).grown g2 (fun b e => .inl ⟨K, hK, by rw [hb, e]⟩), fun j hj => ?_⟩
  by_cases e : j = K
  · subst e
    rw [hV]
    refine ⟨_, o2, fun t ht => ?_⟩
    unfold doneR at ht
    rw [if_neg (by omega), if_pos rfl] at ht
    have lx := hx.1
    by_cases e1 : t = k * 2 + 1
    · subst e1
      rw [List.getElem?_set_self (by rw [List.length_set, lx]; omega), mk_odd]
    · rw [List.getElem?_set_ne (by omega)]
      by_cases e2 : t = k * 2
      · subst e2
        rw [List.getElem?_set_self (by rw [lx]; omega), mk_even]
      · rw [List.getElem?_set_ne (by omega)]
        refine hm t ?_
        unfold doneR
        rw [if_neg (by omega), if_pos rfl]
        omega
  · obtain ⟨ys, hy, hn⟩ := h.own j hj
    have ne : (V j).ownBlock = none ∨ (V j).ownBlock ≠ some g := by
      right
      intro e'
      have a1 := hL.ow j g hj e'
      have a2 := hL.ow K g hK hb
      omega
    refine ⟨ys, (hy.kept g1 ne).kept g2 ne, fun t ht => hn t ?_⟩
    unfold doneR at ht ⊢
    by_cases c : j < K
    · rw [if_pos c] at ht ⊢; exact ht
    · rw [if_neg c, if_neg e] at ht; omega
/-! ### Grown, one place behind the other -/
structure P2 (base N : Nat) (V : Nat → Value) (ln : Nat → Nat) (w W : World) (K M : Nat) (Gs : List Value) (O : Nat → Nat) : Prop where
  keep : KeepS (SB N V) w W
  old : ∀ j h, j < N → (V j).ownBlock = some h → ∀ t, t < ln j * 2 → W.cell? ⟨h, t, none⟩ = some (mkR j t)
  ow : ∀ j h, j < N → (V j).ownBlock = some h → O h = j ∧ h < w.heap.size
  gs : ∀ j, j < K → ∃ G, Gs[j]? = some G ∧ OwnR W base G (ln j + 20) (marksR j (ln j + 20)) ∧ ∀ h, G.ownBlock = some h → O h = j
  rest : ∀ j, M ≤ j → j < N → OwnR W base (V j) (ln j) (marksR j (ln j))
theorem marks_of {j n : Nat} {xs : List Value} (hl : xs.length = n * 2) (h : ∀ t, t < n * 2 → xs[t]? = some (mkR j t)) : xs = marksR j n := by
  apply List.ext_getElem?
  intro t
  by_cases c : t < n * 2
  · rw [h t c, marksR_get c]
  · rw [List.getElem?_eq_none (by omega), List.getElem?_eq_none (by rw [marksR_len]; omega)]
theorem P2.start {base N : Nat} {V : Nat → Value} {ln : Nat → Nat} {O : Nat → Nat} {w W : World} (hL : Lists base N V ln O) (hlt : ∀ j h, j < N → (V j).ownBlock = some h → h < w.heap.size) (h : P1 base N V ln w W N 0) : P2 base N V ln w W 0 0 [] O := by
  have own : ∀ j, j < N → OwnR W base (V j) (ln j) (marksR j (ln j)) := fun j hj => by
    obtain ⟨xs, hx, hm⟩ := h.own j hj
    have : xs = marksR j (ln j) := marks_of hx.1 (fun t ht => hm t (by unfold doneR; rw [if_pos hj]; exact ht))
    rw [← this]
    exact hx
  refine ⟨h.keep, fun j b hj e t ht => ?_, fun j b hj e => ⟨hL.ow j b hj e, hlt j b hj e⟩, fun j hj => absurd hj (Nat.not_lt_zero _), fun j _ hj => own j hj⟩
  have := (own j hj).cells e t _ (marksR_get ht)
  rw [Go.WideShapes.add_plain, Nat.zero_add] at this; exact this
/-- What becomes of all but the list that is being grown. -/
theorem P2.alloc {base N : Nat} {V : Nat → Value} {ln : Nat → Nat} {O : Nat → Nat} {w W : World} {K M : Nat} {Gs : List Value} (h : P2 base N V ln w W K M Gs O) (o : Obj) : P2 base N V ln w (W.alloc o) K M Gs O :=
  ⟨h.keep.below (single W o), fun j b hj e t ht => kc _ _ (single W o) (h.old j b hj e t ht), h.ow, fun j hj => by
    obtain ⟨G, a, b, c⟩ := h.gs j hj
    exact ⟨G, a, b.alloc _, c⟩, fun j h1 h2 => (h.rest j h1 h2).alloc _⟩
/-- The list that is being grown. -/
structure Cur (base K n : Nat) (W : World) (v : Value) (O : Nat → Nat) : Prop where
  own : OwnR W base v n (marksR K n)
  ow : ∀ h, v.ownBlock = some h → O h = K
theorem own_lt {W : World} {base n h : Nat} {v : Value} {xs : List Value} (k : OwnR W base v n xs) (e : v.ownBlock = some h) : h < W.heap.size := (k.lt h e).2
theorem P2.grow {base N : Nat} {V : Nat → Value} {ln : Nat → Nat} {O : Nat → Nat} {w W W' : World} {K k : Nat} {Gs : List Value} {v v' : Value} (hK : K < N) (h : P2 base N V ln w W K (K + 1) Gs O) (c : Cur base K (ln K + k) W v O)
    (ho : OwnR W' base v' (ln K + k + 1) (marksR K (ln K + k + 1))) (hc : (v'.ownBlock = v.ownBlock ∧ v.ownBlock ≠ none ∧ W.grownBy W' v.ownBlock) ∨ (v'.ownBlock = some W.heap.size ∧ W.grownBy W' none)) (hb : ∀ b, v.ownBlock = some b → SB N V b ∨ w.heap.size ≤ b) :
    ∃ O', P2 base N V ln w W' K (K + 1) Gs O' ∧ Cur base K (ln K + k + 1) W' v' O' ∧ ∀ b, v'.ownBlock = some b → SB N V b ∨ w.heap.size ≤ b := by
  rcases hc with ⟨e1, e2, hg⟩ | ⟨e1, hg⟩
  · -- in its place
    obtain ⟨b, eb⟩ := Option.ne_none_iff_exists'.1 e2
    have Ob := c.ow b eb
    refine ⟨O, ⟨h.keep.grown hg (fun x ex => hb x ex), fun j x hj ex t ht => ?_, h.ow, fun j hj => ?_, fun j h1 h2 => ?_⟩, ⟨ho, fun x ex => c.ow x (by rw [← e1]; exact ex)⟩, fun x ex => hb x (by rw [← e1]; exact ex)⟩
    · by_cases ej : x = b
      · subst ej
        have a1 := (h.ow j x hj ex).1
        have ejK : j = K := by omega
        subst ejK
        have := ho.cells (g := x) (by rw [e1, eb]) t _ (marksR_get (by omega))
        rw [Go.WideShapes.add_plain, Nat.zero_add] at this; exact this
      · have hx := World.block_lt_of_cell? _ _ (h.old j x hj ex t ht)
        rw [World.cell?_of_block (a := ⟨x, t, none⟩) (hg.block x hx (by rw [eb]; intro e; injection e with e; exact ej e))]
        exact h.old j x hj ex t ht
    · obtain ⟨G, q1, q2, q3⟩ := h.gs j hj
      refine ⟨G, q1, q2.kept hg (.inr ?_), q3⟩
      rw [eb]
      intro e
      have := q3 b e
      omega
    · refine (h.rest j h1 h2).kept hg (.inr ?_)
      rw [eb]
      intro e
      have := (h.ow j b h2 e).1
      omega
  · -- in a new one
    have sz := h.keep.size
    have kept : ∀ {v : Value} {n : Nat} {xs : List Value}, OwnR W base v n xs → OwnR W' base v n xs := fun q => q.kept hg (by
      rename_i v0 _ _
      cases hv : v0.ownBlock
      · exact .inl rfl
      · exact .inr (by simp))
    refine ⟨fun x => if x = W.heap.size then K else O x, ⟨h.keep.grown hg (fun x ex => by cases ex), fun j x hj ex t ht => ?_, fun j x hj ex => ?_, fun j hj => ?_, fun j h1 h2 => kept (h.rest j h1 h2)⟩, ⟨ho, fun x ex => ?_⟩, fun x ex => ?_⟩
    · have hx := World.block_lt_of_cell? _ _ (h.old j x hj ex t ht)
      rw [World.cell?_of_block (a := ⟨x, t, none⟩) (hg.block x hx (by simp))]
      exact h.old j x hj ex t ht
    · obtain ⟨a1, a2⟩ := h.ow j x hj ex
      rw [if_neg (by omega)]
      exact ⟨a1, a2⟩
    · obtain ⟨G, q1, q2, q3⟩ := h.gs j hj
      refine ⟨G, q1, kept q2, fun x ex => ?_⟩
      have := own_lt q2 ex
      rw [if_neg (by omega)]
      exact q3 x ex
    · rw [e1] at ex
      injection ex with ex
      rw [if_pos ex.symm]
    · rw [e1] at ex
      injection ex with ex
      exact .inr (by omega)
theorem P2.done {base N : Nat} {V : Nat → Value} {ln : Nat → Nat} {O : Nat → Nat} {w W W' : World} {K : Nat} {Gs : List Value} {v : Value} (hK : K < N) (hl : Gs.length = K) (h : P2 base N V ln w W K (K + 1) Gs O) (c : Cur base K (ln K + 20) W v O) : P2 base N V ln w W (K + 1) (K + 1) (Gs ++ [v]) O :=
  ⟨h.keep, h.old, h.ow, fun j hj => by
    by_cases e : j = K
    · subst e
      exact ⟨v, by rw [List.getElem?_append_right (by omega), hl, Nat.sub_self]; rfl, c.own, c.ow⟩
    · obtain ⟨G, q1, q2, q3⟩ := h.gs j (by omega)
      exact ⟨G, by rw [List.getElem?_append_left (by omega)]; exact q1, q2, q3⟩, h.rest⟩
theorem P2.enter {base N : Nat} {V : Nat → Value} {ln : Nat → Nat} {O : Nat → Nat} {w W : World} {K : Nat} {Gs : List Value} (hK : K < N) (h : P2 base N V ln w W K K Gs O) : P2 base N V ln w W K (K + 1) Gs O ∧ Cur base K (ln K + 0) W (V K) O ∧ ∀ b, (V K).ownBlock = some b → SB N V b ∨ w.heap.size ≤ b :=
  ⟨⟨h.keep, h.old, h.ow, h.gs, fun j h1 h2 => h.rest j (by omega) h2⟩, ⟨h.rest K (Nat.le_refl _) hK, fun x ex => (h.ow K x hK ex).1⟩, fun b e => .inl ⟨K, hK, e⟩⟩
/-- A world that has grown elsewhere. -/
theorem P2.away {base N : Nat} {V : Nat → Value} {ln : Nat → Nat} {O : Nat → Nat} {w W W' : World} {K M : Nat} {Gs : List Value} {r : Option Nat} (h : P2 base N V ln w W K M Gs O) (hg : W.grownBy W' r) (hr : ∀ b, r = some b → w.heap.size ≤ b) (ha : ∀ {v : Value} {n : Nat} {xs : List Value}, OwnR W base v n xs → v.ownBlock = none ∨ v.ownBlock ≠ r) (hV : ∀ j b, j < N → (V j).ownBlock = some b → some b ≠ r) : P2 base N V ln w W' K M Gs O :=
  ⟨h.keep.grown hg (fun b e => .inr (hr b e)), fun j x hj ex t ht => by
    have hx := World.block_lt_of_cell? _ _ (h.old j x hj ex t ht)
    rw [World.cell?_of_block (a := ⟨x, t, none⟩) (hg.block x hx (hV j x hj ex))]
    exact h.old j x hj ex t ht, h.ow, fun j hj => by
    obtain ⟨G, q1, q2, q3⟩ := h.gs j hj
    exact ⟨G, q1, q2.kept hg (ha q2), q3⟩, fun j h1 h2 => (h.rest j h1 h2).kept hg (ha (h.rest j h1 h2))⟩
end Go.Proofs.YtondgencdcimjaaGreat
