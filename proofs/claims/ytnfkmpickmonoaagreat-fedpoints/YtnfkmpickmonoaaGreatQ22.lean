/-
  fed.left, walked: what it yields.
-/
import Derived.Test.YtnfkmpickmonoaaGreatQ21
import Derived.Test.YtnfkmpickmonoaaGreatQ11
namespace Go.Proofs.YtnfkmpickmonoaaGreat
open Go.RowKit Go.Shelf
set_option linter.unusedVariables false
set_option maxRecDepth 100000
attribute [local go_sem] Oper.semAt_some
theorem RoundIn.depth {m : Nat} (m' : Nat) {P : Program} {l : Nat} {f : FuncId} {tmps : Array Value} {assign body : Code} {w : World} {R : Ending → World → Prop} (h : RoundIn Fence.wide m P l f tmps assign body w R) : RoundIn Fence.wide m' P l f tmps assign body w R :=
  ⟨h.1, fun c cs _ => h.2 c cs (fun d e => by cases e)⟩
theorem YieldAt.depth {m : Nat} (m' : Nat) {P : Program} {l : Nat} {args : Array Value} {W : World} {R : Ending → World → Prop} (h : YieldAt Fence.wide m P l args W R) : YieldAt Fence.wide m' P l args W R := by
  obtain ⟨fn, tmps, assign, body, hy, hR⟩ := h
  exact ⟨fn, tmps, assign, body, hy, RoundIn.depth m' hR⟩
theorem boxed_past {W W' : World} {B : Nat} {t : TypeId} {v : Value} (h : Boxed W B t v) (hb : Below W.heap.size W W') : Boxed W' B t v := (hb.block B h.lt).trans h
theorem lims_stops7 (k : Nat) (hk : 1 ≤ k) (n m : Nat) (hn : n ≤ 8) (hm : m = (n + 1) * (n + 1)) (d : Row) (Bz b n₀ r : Nat) (X : Option Nat) (w : World) (hBz : Boxed w Bz 41 (.pointer (some ⟨b, 0, none⟩))) (hz : ZoneAt w b n d) (hX : ∀ x, X = some x → x < w.heap.size) (hO : OwnLt r w) :
    SeqStopsK Fence.wide k Tryz.prog 109 #[.pointer (some ⟨Bz, 0, none⟩)] (fun x : Fin m => limVs (limAt n d x.val)) (KeepO n₀ r X) (fun ys => ys = List.finRange m) (fun pre => pre <+: List.finRange m) m w := fun l J Jx W hW hJ _ hY h0 =>
  limits1_in k hk n m hn hm d l Bz b n₀ r X J Jx hY W hJ (boxed_past hBz hW) (hz.past hW) (fun x e => Nat.lt_of_lt_of_le (hX x e) hW.size) (hO.past hW) h0
theorem KeepO.own {n₀ r : Nat} {X : Option Nat} {A B : World} {row : Option Nat} (hg : A.grownBy B row) (hr : ∀ q, row = some q → n₀ ≤ q ∧ ∃ o : Obj, A.heap[q]? = some o ∧ o.isCells = false) (hn : n₀ ≤ A.heap.size) : KeepO n₀ r X A B := by
  have ne : ∀ (b : Nat) (p : Obj), A.heap[b]? = some p → p.isCells = true → B.heap[b]? = A.heap[b]? := fun b p hb hp => hg.block b (lt_of hb) (fun q => by
    obtain ⟨_, o, h, hc⟩ := hr b q.symm
    rw [hb] at h
    injection h with h
    rw [h] at hp
    rw [hp] at hc
    cases hc)
  refine ⟨⟨hg.os, hg.tape, hg.output, hg.size, fun k hk => hg.block k (by omega) (fun q => by have := (hr k q.symm).1; omega)⟩, fun v hv => ⟨fun b p hb hp _ _ _ => (ne b p hb hp).trans hb, v, ?_, .inl rfl⟩⟩
  obtain ⟨p, hp, hi⟩ := cells_of_cell hv
  rw [World.cell?_of_block (w := A) (a := ⟨r, 1, none⟩) (ne r p hp hi)]
  exact hv
theorem ZoneAt.safe {n₀ r : Nat} {X : Option Nat} {A B : World} {b n : Nat} {c : Row} (h : ZoneAt A b n c) (hk : KeepO n₀ r X A B) (hs : Safe r X A b) : ZoneAt B b n c := by
  obtain ⟨o, ho, hi⟩ := cells_of_cell h.clocks
  have e : B.heap[b]? = A.heap[b]? := (hk.block hs ho hi).trans ho.symm
  exact ⟨hk.cell hs h.clocks, fun k hk' => hk.cell hs (h.cell k hk'), fun k hk' => by rw [World.frozen?_of_block (w := A) (a := ⟨b, 1 + k, none⟩) e]; exact h.free k hk'⟩
theorem Safe.with {r x : Nat} {W : World} {b : Nat} (h : Safe r none W b) (ne : b ≠ x) : Safe r (some x) W b := ⟨h.1, fun e => ne (by injection e), h.2.2⟩
theorem own_mono {β : Type} {B B' : Nat} {I : β → World → Prop} (h : OwnFrom B I) (hb : B ≤ B') : OwnFrom B' I := fun s X Y row hs hg hr => h s X Y row hs hg (fun q e => ⟨Nat.le_trans hb (hr q e).1, (hr q e).2⟩)
theorem own_below {β : Type} {B : Nat} {I : β → World → Prop} (h : OwnFrom B I) {s : β} {X Y : World} (hs : I s X) (hb : Below X.heap.size X Y) : I s Y := h s X Y none hs (grown_below hb (Nat.le_refl _)) (by simp)
/-- What has come of the first cells. -/
structure I7 (n m : Nat) (c d : Row) (r l B3 B4 n₀ : Nat) (J : List YE → World → Prop) (pre : List (Fin m)) (W : World) (ys : List YE) (x : Row) (bi : Nat) : Prop where
  told : leftL n m c d (pre.map (·.val)) = (ys.map rowY, some x)
  j : J ys W
  box : Boxed W B4 41 (.pointer (some ⟨bi, 0, none⟩))
  s4 : Safe r none W B4
  z : ZoneAt W bi n x
  zc : ZC n m x
  si : Safe r none W bi
  ne : bi ≠ B4
  y : W.cell? ⟨B3, 0, none⟩ = some (.func (.yield l) #[] #[])
  s3 : Safe r none W B3
  own : OwnLt r W
  n0 : n₀ ≤ W.heap.size
theorem I7.keep {n m : Nat} {c d : Row} {r l B3 B4 n₀ n₁ : Nat} {J : List YE → World → Prop} {pre : List (Fin m)} {A B : World} {ys : List YE} {x : Row} {bi : Nat} (h : I7 n m c d r l B3 B4 n₀ J pre A ys x bi) (hk : KeepO n₁ r none A B) (hJ : J ys B) : I7 n m c d r l B3 B4 n₀ J pre B ys x bi :=
  ⟨h.told, hJ, hk.block h.s4 h.box rfl, h.s4.keep hk (lt_of h.box), h.z.safe hk h.si, h.zc, h.si.keep hk h.z.lt, h.ne, hk.cell h.s3 h.y, h.s3.keep hk (World.block_lt_of_cell? _ _ h.y), h.own.keep hk, Nat.le_trans h.n0 hk.below.size⟩
theorem I7.turn {n m : Nat} {c d : Row} {r l B3 B4 n₀ : Nat} {J : List YE → World → Prop} {pre pre' : List (Fin m)} {A : World} {ys : List YE} {x : Row} {bi : Nat} (h : I7 n m c d r l B3 B4 n₀ J pre A ys x bi) (ht : leftL n m c d (pre'.map (·.val)) = (ys.map rowY, some x)) : I7 n m c d r l B3 B4 n₀ J pre' A ys x bi := ⟨ht, h.j, h.box, h.s4, h.z, h.zc, h.si, h.ne, h.y, h.s3, h.own, h.n0⟩
theorem keepsFrom_below {B : Nat} {A C : World} (h : Below A.heap.size A C) : KeepsFrom B A C := ⟨h.size, fun k o _ hk _ => (h.block k (lt_of hk)).trans hk⟩
theorem I7.any {n m : Nat} {c d : Row} {r l B3 B4 n₀ : Nat} {J : List YE → World → Prop} {pre : List (Fin m)} {A : World} {ys : List YE} {x : Row} {bi : Nat} (h : I7 n m c d r l B3 B4 n₀ J pre A ys x bi) : I7 n m c d r l B3 B4 n₀ (fun _ _ => True) pre A ys x bi := ⟨h.told, trivial, h.box, h.s4, h.z, h.zc, h.si, h.ne, h.y, h.s3, h.own, h.n0⟩
theorem RoundIn.round (l' : Nat) {m : Nat} (m' : Nat) {P : Program} {l : Nat} {f : FuncId} {tmps : Array Value} {assign body : Code} {w : World} {R : Ending → World → Prop} (h : RoundIn Fence.wide m P l f tmps assign body w R) : RoundIn (Fence.wide.inRound l') m' P l f tmps assign body w R := RoundIn.depth m' h
theorem safe_store {r B b : Nat} {W : World} (u : Value) (h : Safe r none W b) (hB : B ≠ r) : Safe r none (W.setCell ⟨B, 0, none⟩ u) b := by
  obtain ⟨s1, s2, v, hv, s3⟩ := h
  exact ⟨s1, s2, v, by rw [World.cell?_setCell_other _ _ _ _ (by intro e; injection e with e1; exact hB e1)]; exact hv, s3⟩
def II7 (n m : Nat) (c d : Row) (r l B3 B4 n₀ : Nat) (J : List YE → World → Prop) (pre : List (Fin m)) (W : World) : Prop := ∃ ys x bi, I7 n m c d r l B3 B4 n₀ J pre W ys x bi
theorem ii7_own {n m : Nat} {c d : Row} {r l B3 B4 n₀ B B' : Nat} {J : List YE → World → Prop} (hJ : OwnFrom B J) (hb : B ≤ B') : OwnFrom B' (II7 n m c d r l B3 B4 n₀ J) := fun s X Y row hs hg hr => by
  obtain ⟨ys, x, bi, h⟩ := hs
  exact ⟨ys, x, bi, h.keep (KeepO.own (n₀ := 0) hg (fun q e => ⟨Nat.zero_le _, (hr q e).2⟩) (Nat.zero_le _)) (own_mono hJ hb ys X Y row h.j hg hr)⟩
def X7 (n m : Nat) (c d : Row) (J Jx : List YE → World → Prop) (cd : Code) (pre : List (Fin m)) (W : World) : Prop :=
  cd = .ret ∧ ((∃ ys : List YE, leftL n m c d (pre.map (·.val)) = (ys.map rowY, none) ∧ J ys W) ∨ ∃ p, p.map rowY <+: (leftL n m c d (pre.map (·.val))).1 ∧ Jx p W)
theorem x7_own {n m : Nat} {c d : Row} {B B' : Nat} {J Jx : List YE → World → Prop} (hJ : OwnFrom B J) (hJx : OwnFrom B Jx) (hb : B ≤ B') (cd : Code) : OwnFrom B' (X7 n m c d J Jx cd) := fun s X Y row hs hg hr => by
  obtain ⟨h, hs⟩ := hs
  refine ⟨h, ?_⟩
  rcases hs with ⟨ys, h1, h2⟩ | ⟨p, h1, h2⟩
  · exact .inl ⟨ys, h1, own_mono hJ hb ys X Y row h2 hg hr⟩
  · exact .inr ⟨p, h1, own_mono hJx hb p X Y row h2 hg hr⟩
theorem fins_vals (m : Nat) : (List.finRange m).map (·.val) = List.range m := by
  apply List.ext_getElem
  · simp
  · intro i h1 h2
    simp
theorem leftL_pre {n m : Nat} {c d : Row} {pre : List (Fin m)} {ys : List YE} (hp : pre <+: List.finRange m) (h : leftL n m c d (pre.map (·.val)) = (ys.map rowY, none)) : (leftL n m c d (List.range m)).1 = ys.map rowY := by
  obtain ⟨t, ht⟩ := hp
  rw [← fins_vals, ← ht, List.map_append, leftL_end (by rw [h]), h]
theorem lNext_pre (n m : Nat) (d : Row) (s : List YS × Option Row) (K : Nat) : s.1 <+: (lNext n m d s K).1 := by
  unfold lNext
  split
  · exact List.prefix_refl _
  · unfold lStep
    split
    · exact List.prefix_refl _
    · split
      · exact List.prefix_append _ _
      · split
        · rw [List.append_assoc]; exact List.prefix_append _ _
        · exact List.prefix_append _ _
theorem leftL_grows {n m : Nat} {c d : Row} (ks js : List Nat) : (leftL n m c d ks).1 <+: (leftL n m c d (ks ++ js)).1 := by
  unfold leftL
  rw [List.foldl_append]
  generalize List.foldl (lNext n m d) ([], some c) ks = s
  induction js generalizing s with
  | nil => exact List.prefix_refl _
  | cons j js ih => exact (lNext_pre n m d s j).trans (ih (lNext n m d s j))
theorem leftL_fin {n m : Nat} {c d : Row} {pre : List (Fin m)} {p : List YE} (hp : pre <+: List.finRange m) (h : p.map rowY <+: (leftL n m c d (pre.map (·.val))).1) : p.map rowY <+: (leftL n m c d (List.range m)).1 := by
  obtain ⟨t, ht⟩ := hp
  rw [← fins_vals, ← ht, List.map_append]
  exact h.trans (leftL_grows _ _)
theorem snoc_vals {m : Nat} (pre : List (Fin m)) (x : Fin m) : (pre ++ [x]).map (·.val) = pre.map (·.val) ++ [x.val] := by simp
theorem told_kept {n m : Nat} {c d x : Row} {pre : List (Fin m)} {ys : List YE} (k : Fin m) (h : leftL n m c d (pre.map (·.val)) = (ys.map rowY, some x)) (hk : x k.val ≤ d k.val) : leftL n m c d ((pre ++ [k]).map (·.val)) = (ys.map rowY, some x) := by
  rw [snoc_vals, leftL_snoc, h]
  simp only [lNext, lStep]
  rw [if_pos hk]
theorem told_out {n m : Nat} {c d x : Row} {pre : List (Fin m)} {ys : List YE} (k : Fin m) (h : leftL n m c d (pre.map (·.val)) = (ys.map rowY, some x)) (hk : ¬ x k.val ≤ d k.val) (hc : conZ n m x (k.val % (n + 1) * (n + 1) + k.val / (n + 1)) (1 - d k.val) = none) :
    leftL n m c d ((pre ++ [k]).map (·.val)) = ((ys ++ [(none, 10)]).map rowY, none) := by
  rw [snoc_vals, leftL_snoc, h]
  simp only [lNext, lStep]
  rw [if_neg hk, hc]
  simp [rowY]
theorem told_in {n m : Nat} {c d x o : Row} {pre : List (Fin m)} {ys : List YE} (k : Fin m) (b : Nat) (h : leftL n m c d (pre.map (·.val)) = (ys.map rowY, some x)) (hk : ¬ x k.val ≤ d k.val) (hc : conZ n m x (k.val % (n + 1) * (n + 1) + k.val / (n + 1)) (1 - d k.val) = some o) (hd : conZ n m x k.val (d k.val) = none) :
    leftL n m c d ((pre ++ [k]).map (·.val)) = ((ys ++ [(some (b, o), 0)] ++ [(none, 10)]).map rowY, none) := by
  rw [snoc_vals, leftL_snoc, h]
  simp only [lNext, lStep]
  rw [if_neg hk, hc, hd]
  simp [rowY]
theorem told_on {n m : Nat} {c d x x' o : Row} {pre : List (Fin m)} {ys : List YE} (k : Fin m) (b : Nat) (h : leftL n m c d (pre.map (·.val)) = (ys.map rowY, some x)) (hk : ¬ x k.val ≤ d k.val) (hc : conZ n m x (k.val % (n + 1) * (n + 1) + k.val / (n + 1)) (1 - d k.val) = some o) (hd : conZ n m x k.val (d k.val) = some x') :
    leftL n m c d ((pre ++ [k]).map (·.val)) = ((ys ++ [(some (b, o), 0)]).map rowY, some x') := by
  rw [snoc_vals, leftL_snoc, h]
  simp only [lNext, lStep]
  rw [if_neg hk, hc, hd]
  simp [rowY]
set_option maxHeartbeats 4000000 in
theorem left1_in (k : Nat) (hk : 4 ≤ k) (n m : Nat) (hn : n ≤ 8) (hm : m = (n + 1) * (n + 1)) (c d : Row) (zc : ZC n m c) (zd : ZC n m d) (l Bz By bz by_ r n₀ n₁ : Nat) (J Jx : List YE → World → Prop)
    (hY : ∀ kd pre x W1, J pre W1 → TY n m r x W1 → YieldAt Fence.wide kd Tryz.prog l (encY x) W1 fun e W' =>
      (e = .returned (.bool true) ∧ J (pre ++ [x]) W' ∧ KeepO n₀ r none W1 W' ∧ KeepsFrom n₁ W1 W') ∨ (e = .returned (.bool false) ∧ Jx (pre ++ [x]) W' ∧ KeepsFrom n₁ W1 W'))
    (W : World) (hSJ : ∀ s A b u, J s A → W.heap.size ≤ b → Safe r none A b → (∃ p, A.cell? ⟨b, 0, none⟩ = some (.pointer p)) → J s (A.setCell ⟨b, 0, none⟩ u)) (hJ : OwnFrom W.heap.size J) (hJx : OwnFrom W.heap.size Jx) (hn0 : n₀ ≤ W.heap.size) (hn1 : n₁ ≤ W.heap.size)
    (hBz : Boxed W Bz 41 (.pointer (some ⟨bz, 0, none⟩))) (hBy : Boxed W By 41 (.pointer (some ⟨by_, 0, none⟩))) (hz : ZoneAt W bz n c) (hy : ZoneAt W by_ n d) (hS : Safe r none W bz) (hO : OwnLt r W) (h0 : J [] W) :
    CallsIn Fence.wide k Tryz.prog 78 #[.func (.yield l) #[] #[], .pointer (some ⟨Bz, 0, none⟩), .pointer (some ⟨By, 0, none⟩)] W fun e W' => (∃ v, e = .returned v) ∧
      ((∃ ys : List YE, ys.map rowY = leftY n m c d ∧ J ys W') ∨ (∃ pre, pre.map rowY <+: leftY n m c d ∧ Jx pre W')) := by
  have hk1 : 1 ≤ k := by omega
  have c32 := zc_32 hm zc
  have d32 := zc_32 hm zd
  have HM : Hid (∀ W', Below W.heap.size W W' → Calls Tryz.prog 79 #[.pointer (some ⟨bz, 0, none⟩), .pointer (some ⟨by_, 0, none⟩)] W' fun e w' => e = .returned (.bool (metB n m c d)) ∧ Below W'.heap.size W' w') := fun W' (h : Below W.heap.size W W') => meets_any bz by_ n m c d W' (hz.past h) (hy.past h) hn hm c32 d32
  have em : leftY n m c d = if metB n m c d = true then (leftL n m c d (List.range m)).1 else [(some c, 0)] := rfl
  have HY := hideD hY
  have HJ := hideD hJ
  have HJx := hideD hJx
  have J0 := hideD h0
  have HZ := hideD hz
  have HYy := hideD hy
  have HBy := hideD hBy
  have HBz := hideD hBz
  have HS := hideD hS
  have HO := hideD hO
  have e1 := hBz.cell
  have e2 := hBy.cell
  clear hz hy hY hJ hJx h0 hBy hBz hS hO
  refine callsIn_of_wp_marks Tryz.func78 rfl trivial ?_ rfl
  simp only [Tryz.ntmps78, List.size_toArray, List.length_cons, List.length_nil, Nat.reduceAdd, Nat.reduceSub, Array.replicate_succ, Array.replicate_zero, List.push_toArray, List.append_toArray, List.nil_append, List.cons_append]
  have B0 := hideD (below_one W (.cells #[.func (.yield l) #[] #[]] 128))
  have e1 := kc _ _ B0.out e1
  have e2 := kc _ _ B0.out e2
  have HM0 := hideD (HM.out _ B0.out)
  gi_wp2
  refine ⟨trivial, (callsIn_wide.2 HM0.out).mono ?_⟩
  rintro e w1 ⟨rfl, hb⟩
  have f1 := kc _ _ hb e1
  have f2 := kc _ _ hb e2
  have f3 := kc ⟨W.heap.size, 0, none⟩ (.func (.yield l) #[] #[]) hb (by simp [go_sem])
  have B1 := hideD (beyondD B0.out hb)
  clear hb HM0 HM e1 e2 B0
  generalize metB n m c d = mt at *
  cases mt with
  | false =>
    obtain ⟨fn, tmps, assign, body, hy, hR⟩ := HY.out 0 [] (some (bz, c), 0) w1 (HJ.out [] W w1 none J0.out (grown_below B1.out (Nat.le_refl _)) (by simp)) ⟨fun _ h => (by cases h), fun z e => by cases e; exact ⟨HZ.out.past B1.out, c32, zc, HS.out.past B1.out⟩⟩
    have EM : Hid (leftY n m c d = [(some c, 0)]) := em
    simp only [encY, Option.map_some] at hy
    clear em
    gi_wp2
    refine (RoundIn.depth (k - 1) hR).mono ?_
    rintro e W3 h3
    obtain ⟨r, rfl, h4⟩ := two_ways h3
    have H4 := hideD h4
    clear h4 h3 hR hy
    gi_wp2
    refine ⟨_, results_none rfl _ _ _, ⟨_, rfl⟩, ?_⟩
    rcases H4.out with ⟨-, hJ3, -⟩ | ⟨-, hx3, -⟩
    · exact .inl ⟨[(some (bz, c), 0)], by rw [EM.out]; rfl, hJ3⟩
    · exact .inr ⟨_, by rw [EM.out]; exact List.prefix_refl _, hx3⟩
  | true =>
    have EM : Hid (leftY n m c d = (leftL n m c d (List.range m)).1) := em
    clear em
    have f2 := kc _ _ (below_one w1 (.cells #[.pointer (some ⟨bz, 0, none⟩)] 41)) f2
    gi_wp2
    refine ⟨trivial, (limits_in _ by_ _).mono ?_⟩
    rintro e w' ⟨rfl, rfl⟩
    gi_wp2
    have c4 := boxed_past (Boxed.new w1 41 (.pointer (some ⟨bz, 0, none⟩))) (below_one (w1.alloc (.cells #[.pointer (some ⟨bz, 0, none⟩)] 41)) (.cells #[.pointer (some ⟨by_, 0, none⟩)] 41))
    have cz := Boxed.new (w1.alloc (.cells #[.pointer (some ⟨bz, 0, none⟩)] 41)) 41 (.pointer (some ⟨by_, 0, none⟩))
    simp only [World.size_alloc] at cz
    have hb4 : Below w1.heap.size w1 ((w1.alloc (.cells #[.pointer (some ⟨bz, 0, none⟩)] 41)).alloc (.cells #[.pointer (some ⟨by_, 0, none⟩)] 41)) := ((Below.refl _ _).alloc (Nat.le_refl _) _).alloc (by simp) _
    have sz4 : ((w1.alloc (.cells #[.pointer (some ⟨bz, 0, none⟩)] 41)).alloc (.cells #[.pointer (some ⟨by_, 0, none⟩)] 41)).heap.size = w1.heap.size + 2 := by simp
    generalize (w1.alloc (.cells #[.pointer (some ⟨bz, 0, none⟩)] 41)).alloc (.cells #[.pointer (some ⟨by_, 0, none⟩)] 41) = W4 at *
    have s1 := B1.out.size
    have BW4 : Below W.heap.size W W4 := B1.out.trans (hb4.mono s1)
    have hj4 := own_below HJ.out J0.out BW4
    have lt3 := World.block_lt_of_cell? _ _ f3
    simp only at lt3
    have hO4 := HO.out.past BW4
    have i0 : I7 n m c d r l W.heap.size w1.heap.size n₀ J [] W4 [] c bz :=
      ⟨rfl, hj4, c4, Safe.fresh HO.out BW4 (fun x e => by cases e) s1, HZ.out.past BW4, zc, HS.out.past BW4, by have := HZ.out.lt; omega, kc _ _ hb4 f3, Safe.fresh HO.out BW4 (fun x e => by cases e) (Nat.le_refl _), hO4, by have := BW4.size; omega⟩
    have hz4 := HYy.out.past BW4
    have HN := hideD hn
    have HMM := hideD hm
    have HZD := hideD zd
    have HSJ := hideD hSJ
    have H0 := hideD (And.intro hn0 hn1)
    clear hn hm zc zd c32 d32 hb4 f2 f3 hj4 hSJ hn0 hn1
    have q4 := BW4.size
    refine wpIn_rangeFunc_ownH rfl (by omega) (gf := 109) (lb := #[.pointer (some ⟨w1.heap.size + 1, 0, none⟩)]) (by simp [Act.eval, go_sem]) trivial (enters_of Tryz.func109 (by kernel_rfl) rfl)
      (lims_stops7 (k - 1) (by omega) n m HN.out HMM.out d (w1.heap.size + 1) by_ n₀ r (some w1.heap.size) W4 cz hz4 (fun x e => by injection e with e; omega) hO4) KeepO.trans (fun V l o o' hl ho hc _ => KeepO.put V l o o' (by have := H0.out.1; omega) ho hc) (Below.refl _ _) (fun _ => rfl)
      (II7 n m c d r l W.heap.size w1.heap.size n₀ J) (X7 n m c d J Jx) (ii7_own HJ.out q4) (x7_own HJ.out HJx.out q4) ⟨[], c, bz, i0⟩
      (fun x a' V => ∃ Bx, V.heap[Bx]? = some (.cells #[.int .i64 ((x.val / (n + 1) : Nat) : Int), .int .i64 ((x.val % (n + 1) : Nat) : Int), .int .i32 (d x.val)] 90) ∧ Safe r none V Bx ∧ Bx ≠ w1.heap.size ∧ a' = { tmps := #[.func (.yield l) #[] #[], .pointer (some ⟨Bz, 0, none⟩), .pointer (some ⟨By, 0, none⟩), .pointer (some ⟨W.heap.size, 0, none⟩), .pointer (some ⟨w1.heap.size, 0, none⟩), .pointer (some ⟨Bx, 0, none⟩), undef, undef, .pointer (some ⟨bz, 0, none⟩), .pointer (some ⟨by_, 0, none⟩), .bool true, .bool false, undef, undef, undef, .pointer (some ⟨bz, 0, none⟩), .pointer (some ⟨by_, 0, none⟩), .func (.func 109) #[] #[.pointer (some ⟨w1.heap.size + 1, 0, none⟩)], .agg #[.int .i64 ((x.val / (n + 1) : Nat) : Int), .int .i64 ((x.val % (n + 1) : Nat) : Int), .int .i32 (d x.val)], undef, undef, undef, undef, undef, undef, undef, undef, undef, undef, undef, undef, undef, undef, undef, undef, undef, undef, undef, undef, undef, undef, undef, undef, undef, undef, undef, undef, undef, undef, undef, undef], defers := [] })
      (fun x a' _ X Y row hs hg hr => by
        obtain ⟨Bx, h1, h2, h3, h4⟩ := hs
        have kk := KeepO.own (n₀ := 0) (r := r) (X := none) hg (fun q e => ⟨Nat.zero_le _, (hr q e).2⟩) (Nat.zero_le _)
        exact ⟨Bx, kk.block h2 h1 rfl, h2.keep kk (lt_of h1), h3, h4⟩)
      ?assign ?body ?done ?stop
    case assign =>
      rintro l' pre x V K ⟨ys, xr, bi, hI⟩ hK
      simp only [limVs, limAt]
      gi_wp2
      have k0 : KeepO n₀ r none V (V.alloc (.cells #[.int .i64 ((x.val / (n + 1) : Nat) : Int), .int .i64 ((x.val % (n + 1) : Nat) : Int), .int .i32 (d x.val)] 90)) := KeepO.alloc V _ hI.n0
      exact hK _ _ ((KeepsOthers.alloc _ _).from _) k0.weak ⟨ys, xr, bi, hI.keep k0 (own_below HJ.out hI.j (below_one V _))⟩ ⟨V.heap.size, World.alloc_heap_new V _, Safe.fresh hI.own (below_one V _) (fun x e => by cases e) (Nat.le_refl _), by have := lt_of hI.box; omega, rfl⟩
    case body =>
      rintro l' pre x a' V hl - ⟨ys, xr, bi, hI⟩ ⟨Bx, bX, sX, nX, rfl⟩ hlt
      have iI : x.val / (n + 1) ≤ n := by
        have h1 : x.val < (n + 1) * (n + 1) := by rw [← HMM.out]; exact x.isLt
        have := Nat.div_lt_of_lt_mul h1
        omega
      have iJ : x.val % (n + 1) ≤ n := by have := Nat.mod_lt x.val (show 0 < n + 1 by omega); omega
      have ex : x.val / (n + 1) * (n + 1) + x.val % (n + 1) = x.val := by rw [Nat.mul_comm]; exact Nat.div_add_mod x.val (n + 1)
      have i4 := hI.box.cell
      have iy := hI.y
      have d0 : V.cell? ⟨Bx, 0, none⟩ = some (.int .i64 ((x.val / (n + 1) : Nat) : Int)) := by simp [World.cell?, bX]
      have d1 : V.cell? ⟨Bx, 1, none⟩ = some (.int .i64 ((x.val % (n + 1) : Nat) : Int)) := by simp [World.cell?, bX]
      have d2 : V.cell? ⟨Bx, 2, none⟩ = some (.int .i32 (d x.val)) := by simp [World.cell?, bX]
      have HK := hideD (fkeeps_any bi n _ _ xr (d x.val) V HN.out hI.z iI iJ)
      rw [ex] at HK
      have HI := hideD hI
      have HBX := hideD bX
      clear i0 hz4 hO4 cz c4 bX
      by_cases ck : xr x.val ≤ d x.val
      · have TK := hideD (told_kept x hI.told ck)
        rw [decide_eq_true ck] at HK
        clear hI ck ex
        generalize d x.val = dv at *
        generalize x.val / (n + 1) = ii at *
        generalize x.val % (n + 1) = jj at *
        gi_wp2
        refine ⟨trivial, fun e => (by cases e), CallsIn.inRound l' ((callsIn_wide.2 HK.out).mono ?_)⟩
        rintro e V1 ⟨rfl, hb⟩
        gi_wp2
        exact ⟨keepsFrom_below hb, KeepO.of hb HI.out.n0, ys, xr, bi, (HI.out.keep (KeepO.of (n₀ := n₀) hb HI.out.n0) (own_below HJ.out HI.out.j hb)).turn TK.out⟩
      · rw [decide_eq_false ck] at HK
        have xr1 := zc_right HMM.out hI.zc x.val
        have dr1 := zc_right HMM.out HZD.out x.val
        have fd : -536870912 ≤ d x.val ∧ d x.val ≤ 536870913 := by
          unfold rightB at xr1 dr1
          have := of_decide_eq_true xr1
          have := of_decide_eq_true dr1
          omega
        have HO := hideD (fun U => opp_any ((x.val / (n + 1) : Nat) : Int) ((x.val % (n + 1) : Nat) : Int) (d x.val) U)
        rw [notB_eq fd.1 fd.2] at HO
        have r1 : rightB (1 - d x.val) = true := by unfold rightB; exact decide_eq_true (by omega)
        have HC1 : Hid (∀ U g, Below V.heap.size V U → U.cell? ⟨g, 0, none⟩ = some (.int .i64 ((x.val % (n + 1) : Nat) : Int)) → U.cell? ⟨g, 1, none⟩ = some (.int .i64 ((x.val / (n + 1) : Nat) : Int)) → U.cell? ⟨g, 2, none⟩ = some (.int .i32 (1 - d x.val)) →
            Calls Tryz.prog 82 #[.pointer (some ⟨bi, 0, none⟩), .slice (some ⟨g, 0, none⟩) 1 1] U fun e w' => ZoneOut w' U.heap.size n e (conZ n m xr (x.val % (n + 1) * (n + 1) + x.val / (n + 1)) (1 - d x.val)) ∧ Below U.heap.size U w') := fun U g hU g0 g1 g2 =>
          con_one bi n m _ _ g xr (1 - d x.val) U HN.out HMM.out (hI.z.past hU) (zc_32 HMM.out hI.zc) hI.zc iJ iI r1 (by omega) (by omega) g0 g1 g2
        have HC2 : Hid (∀ U g, ZoneAt U bi n xr → U.cell? ⟨g, 0, none⟩ = some (.int .i64 ((x.val / (n + 1) : Nat) : Int)) → U.cell? ⟨g, 1, none⟩ = some (.int .i64 ((x.val % (n + 1) : Nat) : Int)) → U.cell? ⟨g, 2, none⟩ = some (.int .i32 (d x.val)) →
            Calls Tryz.prog 82 #[.pointer (some ⟨bi, 0, none⟩), .slice (some ⟨g, 0, none⟩) 1 1] U fun e w' => ZoneOut w' U.heap.size n e (conZ n m xr x.val (d x.val)) ∧ Below U.heap.size U w') := fun U g hU g0 g1 g2 => by
          have h := con_one bi n m _ _ g xr (d x.val) U HN.out HMM.out hU (zc_32 HMM.out hI.zc) hI.zc iI iJ dr1 (by omega) (by omega) g0 g1 g2
          rwa [ex] at h
        have TN := hideD (fun h => told_out x hI.told ck h)
        have TI := hideD (fun o b h h' => told_in (o := o) x b hI.told ck h h')
        have TO := hideD (fun o x' b h h' => told_on (o := o) (x' := x') x b hI.told ck h h')
        have ZO1 : Hid (∀ o, conZ n m xr (x.val % (n + 1) * (n + 1) + x.val / (n + 1)) (1 - d x.val) = some o → ZC n m o) := fun o h => conZ_zc HN.out HMM.out hI.zc r1 h
        have ZO2 : Hid (∀ o, conZ n m xr x.val (d x.val) = some o → ZC n m o) := fun o h => conZ_zc HN.out HMM.out hI.zc dr1 h
        generalize conZ n m xr (x.val % (n + 1) * (n + 1) + x.val / (n + 1)) (1 - d x.val) = o1 at *
        generalize conZ n m xr x.val (d x.val) = o2 at *
        generalize 1 - d x.val = dn at *
        generalize d x.val = dv at *
        generalize x.val / (n + 1) = ii at *
        generalize x.val % (n + 1) = jj at *
        clear hI ck xr1 dr1 fd r1 ex
        gi_wp2
        refine ⟨trivial, fun e => (by cases e), CallsIn.inRound l' ((callsIn_wide.2 HK.out).mono ?_)⟩
        rintro e V1 ⟨rfl, hb⟩
        gi_wp2
        have S0 : Hid (V1.drew.cell? ⟨w1.heap.size, 0, none⟩ = some (.pointer (some ⟨bi, 0, none⟩)) ∧ V1.drew.cell? ⟨Bx, 0, none⟩ = some (.int .i64 (ii : Int)) ∧ V1.drew.cell? ⟨Bx, 1, none⟩ = some (.int .i64 (jj : Int)) ∧ V1.drew.cell? ⟨Bx, 2, none⟩ = some (.int .i32 dv)) := ⟨kc _ _ hb.drew i4, kc _ _ hb.drew d0, kc _ _ hb.drew d1, kc _ _ hb.drew d2⟩
        have B7 := hideD (hb.drew)
        refine region_round (fun w' => w'.cell? ⟨w1.heap.size, 0, none⟩ = some (.pointer (some ⟨bi, 0, none⟩)) ∧ w'.cell? ⟨Bx, 0, none⟩ = some (.int .i64 (ii : Int)) ∧ w'.cell? ⟨Bx, 1, none⟩ = some (.int .i64 (jj : Int)) ∧ w'.cell? ⟨Bx, 2, none⟩ = some (.int .i32 dv)) (by kernel_rfl) (by kernel_rfl) (fun h => by obtain ⟨_, _, h⟩ := h; exact h) S0.out (fun hHeld => ?_)
        refine wpAnyH_take (i := 0) (oi := ⟨_, _, _, _, _, _⟩) (v := ?_) rfl (by kernel_rfl) (by kernel_rfl) (by kernel_rfl) (fun _ _ _ h => h) (Or.inl ⟨by rfl, ?_⟩) (by assumption) ?_
        rotate_left
        · intro w hSw; (try dsimp only at hSw); obtain ⟨hs1, hs2, hs3, hs4⟩ := hSw; first | (go_simp; done) | (go_simp; with_reducible rfl)
        try simp only [Act.put, List.setIfInBounds_toArray, List.set_cons_zero, List.set_cons_succ]
        refine wpAnyH_take (i := 1) (oi := ⟨_, _, _, _, _, _⟩) (v := ?_) rfl (by kernel_rfl) (by kernel_rfl) (by kernel_rfl) (fun _ _ _ h => h) (Or.inl ⟨by rfl, ?_⟩) (by assumption) ?_
        rotate_left
        · intro w hSw; (try dsimp only at hSw); obtain ⟨hs1, hs2, hs3, hs4⟩ := hSw; first | (go_simp; done) | (go_simp; with_reducible rfl)
        try simp only [Act.put, List.setIfInBounds_toArray, List.set_cons_zero, List.set_cons_succ]
        refine wpAnyH_ready (rs := [2]) (by kernel_rfl) (by simp) ?_
        refine AllReadyH.cons (o := ⟨_, _, _, _, _, _⟩) rfl (fun KK hK => ?_) AllReadyH.nil
        go_simp
        refine (HO.out _).mono ?_
        rintro e V2 ⟨rfl, hb2⟩
        have S1 : Hid (V2.cell? ⟨w1.heap.size, 0, none⟩ = some (.pointer (some ⟨bi, 0, none⟩)) ∧ V2.cell? ⟨Bx, 0, none⟩ = some (.int .i64 (ii : Int)) ∧ V2.cell? ⟨Bx, 1, none⟩ = some (.int .i64 (jj : Int)) ∧ V2.cell? ⟨Bx, 2, none⟩ = some (.int .i32 dv)) := ⟨kc _ _ hb2 S0.out.1, kc _ _ hb2 S0.out.2.1, kc _ _ hb2 S0.out.2.2.1, kc _ _ hb2 S0.out.2.2.2⟩
        have B8 := hideD (B7.out.trans (hb2.mono B7.out.size))
        clear hb2
        refine hK.out _ _ S1.out (fun hHeld => ?_)
        clear hK KK
        try simp only [Act.put, List.setIfInBounds_toArray, List.set_cons_zero, List.set_cons_succ]
        refine wpAnyH_ready (rs := [3]) (by kernel_rfl) (by simp) ?_
        refine AllReadyH.cons (o := ⟨_, _, _, _, _, _⟩) rfl (fun KK hK => ?_) AllReadyH.nil
        go_simp
        have b3 := below_one V2 (.cells #[.int .i64 (jj : Int), .int .i64 (ii : Int), .int .i32 dn] 90)
        have S2 : Hid ((V2.alloc (.cells #[.int .i64 (jj : Int), .int .i64 (ii : Int), .int .i32 dn] 90)).cell? ⟨w1.heap.size, 0, none⟩ = some (.pointer (some ⟨bi, 0, none⟩)) ∧ (V2.alloc (.cells #[.int .i64 (jj : Int), .int .i64 (ii : Int), .int .i32 dn] 90)).cell? ⟨Bx, 0, none⟩ = some (.int .i64 (ii : Int)) ∧ (V2.alloc (.cells #[.int .i64 (jj : Int), .int .i64 (ii : Int), .int .i32 dn] 90)).cell? ⟨Bx, 1, none⟩ = some (.int .i64 (jj : Int)) ∧ (V2.alloc (.cells #[.int .i64 (jj : Int), .int .i64 (ii : Int), .int .i32 dn] 90)).cell? ⟨Bx, 2, none⟩ = some (.int .i32 dv)) := ⟨kc _ _ b3 S1.out.1, kc _ _ b3 S1.out.2.1, kc _ _ b3 S1.out.2.2.1, kc _ _ b3 S1.out.2.2.2⟩
        have B9 := hideD (B8.out.trans (b3.mono B8.out.size))
        have CC := hideD (HC1.out (V2.alloc (.cells #[.int .i64 (jj : Int), .int .i64 (ii : Int), .int .i32 dn] 90)) V2.heap.size B9.out (by simp [go_sem]) (by simp [go_sem]) (by simp [go_sem]))
        clear b3
        refine hK.out _ _ S2.out (fun hHeld => ?_)
        clear hK KK
        generalize V2.alloc (.cells #[.int .i64 (jj : Int), .int .i64 (ii : Int), .int .i32 dn] 90) = V3 at *
        try simp only [Act.put, List.setIfInBounds_toArray, List.set_cons_zero, List.set_cons_succ]
        refine wpAnyH_ready (rs := [4]) (by kernel_rfl) (by simp) ?_
        refine AllReadyH.cons (o := ⟨_, _, _, _, _, _⟩) rfl (fun KK hK => ?_) AllReadyH.nil
        go_simp
        refine CC.out.mono ?_
        rintro e V4 ⟨hz, hb4⟩
        have S3 : Hid (V4.cell? ⟨w1.heap.size, 0, none⟩ = some (.pointer (some ⟨bi, 0, none⟩)) ∧ V4.cell? ⟨Bx, 0, none⟩ = some (.int .i64 (ii : Int)) ∧ V4.cell? ⟨Bx, 1, none⟩ = some (.int .i64 (jj : Int)) ∧ V4.cell? ⟨Bx, 2, none⟩ = some (.int .i32 dv)) := ⟨kc _ _ hb4 S2.out.1, kc _ _ hb4 S2.out.2.1, kc _ _ hb4 S2.out.2.2.1, kc _ _ hb4 S2.out.2.2.2⟩
        have BA := hideD (B9.out.trans (hb4.mono B9.out.size))
        have sz9 := hideD B9.out.size
        clear hb4
        cases o1 with
        | none =>
          obtain rfl := hz
          go_simp
          refine hK.out _ _ S3.out (fun hHeld => ?_)
          clear hK KK
          try simp only [Act.put, List.setIfInBounds_toArray, List.set_cons_zero, List.set_cons_succ]
          refine wpAnyH_take (i := 5) (oi := ⟨_, _, _, _, _, _⟩) (v := ?_) rfl (by kernel_rfl) (by kernel_rfl) (by kernel_rfl) (fun _ _ _ h => h) (Or.inl ⟨by rfl, ?_⟩) (by assumption) ?_
          rotate_left
          · intro w hSw; (try dsimp only at hSw); obtain ⟨hs1, hs2, hs3, hs4⟩ := hSw; first | (go_simp; done) | (go_simp; with_reducible rfl)
          try simp only [Act.put, List.setIfInBounds_toArray, List.set_cons_zero, List.set_cons_succ]
          refine wpAnyH_take (i := 6) (oi := ⟨_, _, _, _, _, _⟩) (v := ?_) rfl (by kernel_rfl) (by kernel_rfl) (by kernel_rfl) (fun _ _ _ h => h) (Or.inl ⟨by rfl, ?_⟩) (by assumption) ?_
          rotate_left
          · intro w hSw; (try dsimp only at hSw); obtain ⟨hs1, hs2, hs3, hs4⟩ := hSw; first | (go_simp; done) | (go_simp; with_reducible rfl)
          try simp only [Act.put, List.setIfInBounds_toArray, List.set_cons_zero, List.set_cons_succ]
          refine wpAnyH_take (i := 7) (oi := ⟨_, _, _, _, _, _⟩) (v := ?_) rfl (by kernel_rfl) (by kernel_rfl) (by kernel_rfl) (fun _ _ _ h => h) (Or.inl ⟨by rfl, ?_⟩) (by assumption) ?_
          rotate_left
          · intro w hSw; (try dsimp only at hSw); obtain ⟨hs1, hs2, hs3, hs4⟩ := hSw; first | (go_simp; done) | (go_simp; with_reducible rfl)
          try simp only [Act.put, List.setIfInBounds_toArray, List.set_cons_zero, List.set_cons_succ]
          refine wpAnyH_take (i := 8) (oi := ⟨_, _, _, _, _, _⟩) (v := ?_) rfl (by kernel_rfl) (by kernel_rfl) (by kernel_rfl) (fun _ _ _ h => h) (Or.inl ⟨by rfl, ?_⟩) (by assumption) ?_
          rotate_left
          · intro w hSw; (try dsimp only at hSw); obtain ⟨hs1, hs2, hs3, hs4⟩ := hSw; first | (go_simp; done) | (go_simp; with_reducible rfl)
          try simp only [Act.put, List.setIfInBounds_toArray, List.set_cons_zero, List.set_cons_succ]
          refine wpAnyH_take (i := 9) (oi := ⟨_, _, _, _, _, _⟩) (v := ?_) rfl (by kernel_rfl) (by kernel_rfl) (by kernel_rfl) (fun _ _ _ h => h) (Or.inl ⟨by rfl, ?_⟩) (by assumption) ?_
          rotate_left
          · intro w hSw; (try dsimp only at hSw); obtain ⟨hs1, hs2, hs3, hs4⟩ := hSw; first | (go_simp; done) | (go_simp; with_reducible rfl)
          try simp only [Act.put, List.setIfInBounds_toArray, List.set_cons_zero, List.set_cons_succ]
          refine wpAnyH_done (by kernel_rfl) ?_ _
          have y4 := kc _ _ BA.out iy
          obtain ⟨fn, tmps, assign, body, hy, hR⟩ := HY.out 0 ys (none, 10) V4 (own_below HJ.out HI.out.j BA.out) ⟨fun h => (by cases h), fun z e => by cases e⟩
          simp only [encY, Option.map_none] at hy
          gi_wp2
          refine ⟨fun e => (by cases e), (RoundIn.round l' (k - 1 - 1 - 1) hR).mono ?_⟩
          rintro e V5 h3
          obtain ⟨rr, rfl, h4⟩ := two_ways h3
          have FIN : Hid (KeepsFrom W4.heap.size V V5 ∧ X7 n m c d J Jx .ret (pre ++ [x]) V5) := by
            rcases h4 with ⟨-, hJ5, -, hk5⟩ | ⟨-, hx5, hk5⟩
            · exact ⟨(keepsFrom_below BA.out).trans (keepsFrom_up hk5 (by have := H0.out.2; omega)), rfl, .inl ⟨_, TN.out (by trivial), hJ5⟩⟩
            · exact ⟨(keepsFrom_below BA.out).trans (keepsFrom_up hk5 (by have := H0.out.2; omega)), rfl, .inr ⟨_, by rw [TN.out (by trivial)]; exact List.prefix_refl _, hx5⟩⟩
          clear h4 h3 hR hy
          cases rr with
          | true =>
            gi_wp2
            exact FIN.out
          | false =>
            gi_wp2
            exact FIN.out
        | some o =>
          obtain ⟨bo, g0, rfl, hzo⟩ := hz
          go_simp
          refine hK.out _ _ S3.out (fun hHeld => ?_)
          clear hK KK
          try simp only [Act.put, List.setIfInBounds_toArray, List.set_cons_zero, List.set_cons_succ]
          refine wpAnyH_take (i := 5) (oi := ⟨_, _, _, _, _, _⟩) (v := ?_) rfl (by kernel_rfl) (by kernel_rfl) (by kernel_rfl) (fun _ _ _ h => h) (Or.inl ⟨by rfl, ?_⟩) (by assumption) ?_
          rotate_left
          · intro w hSw; (try dsimp only at hSw); obtain ⟨hs1, hs2, hs3, hs4⟩ := hSw; first | (go_simp; done) | (go_simp; with_reducible rfl)
          try simp only [Act.put, List.setIfInBounds_toArray, List.set_cons_zero, List.set_cons_succ]
          refine wpAnyH_take (i := 6) (oi := ⟨_, _, _, _, _, _⟩) (v := ?_) rfl (by kernel_rfl) (by kernel_rfl) (by kernel_rfl) (fun _ _ _ h => h) (Or.inl ⟨by rfl, ?_⟩) (by assumption) ?_
          rotate_left
          · intro w hSw; (try dsimp only at hSw); obtain ⟨hs1, hs2, hs3, hs4⟩ := hSw; first | (go_simp; done) | (go_simp; with_reducible rfl)
          try simp only [Act.put, List.setIfInBounds_toArray, List.set_cons_zero, List.set_cons_succ]
          refine wpAnyH_take (i := 7) (oi := ⟨_, _, _, _, _, _⟩) (v := ?_) rfl (by kernel_rfl) (by kernel_rfl) (by kernel_rfl) (fun _ _ _ h => h) (Or.inl ⟨by rfl, ?_⟩) (by assumption) ?_
          rotate_left
          · intro w hSw; (try dsimp only at hSw); obtain ⟨hs1, hs2, hs3, hs4⟩ := hSw; first | (go_simp; done) | (go_simp; with_reducible rfl)
          try simp only [Act.put, List.setIfInBounds_toArray, List.set_cons_zero, List.set_cons_succ]
          refine wpAnyH_take (i := 8) (oi := ⟨_, _, _, _, _, _⟩) (v := ?_) rfl (by kernel_rfl) (by kernel_rfl) (by kernel_rfl) (fun _ _ _ h => h) (Or.inl ⟨by rfl, ?_⟩) (by assumption) ?_
          rotate_left
          · intro w hSw; (try dsimp only at hSw); obtain ⟨hs1, hs2, hs3, hs4⟩ := hSw; first | (go_simp; done) | (go_simp; with_reducible rfl)
          try simp only [Act.put, List.setIfInBounds_toArray, List.set_cons_zero, List.set_cons_succ]
          refine wpAnyH_take (i := 9) (oi := ⟨_, _, _, _, _, _⟩) (v := ?_) rfl (by kernel_rfl) (by kernel_rfl) (by kernel_rfl) (fun _ _ _ h => h) (Or.inl ⟨by rfl, ?_⟩) (by assumption) ?_
          rotate_left
          · intro w hSw; (try dsimp only at hSw); obtain ⟨hs1, hs2, hs3, hs4⟩ := hSw; first | (go_simp; done) | (go_simp; with_reducible rfl)
          try simp only [Act.put, List.setIfInBounds_toArray, List.set_cons_zero, List.set_cons_succ]
          refine wpAnyH_done (by kernel_rfl) ?_ _
          have y4 := kc _ _ BA.out iy
          obtain ⟨fn, tmps, assign, body, hy, hR⟩ := HY.out 0 ys (some (bo, o), 0) V4 (own_below HJ.out HI.out.j BA.out) ⟨fun _ h => (by cases h), fun z e => by cases e; exact ⟨hzo, zc_32 HMM.out (ZO1.out o rfl), ZO1.out o rfl, Safe.fresh (X := none) HI.out.own BA.out (fun x e => by cases e) (Nat.le_trans sz9.out g0)⟩⟩
          simp only [encY, Option.map_some] at hy
          gi_wp2
          refine ⟨fun e => (by cases e), (RoundIn.round l' (k - 1 - 1 - 1) hR).mono ?_⟩
          rintro e V5 h3
          obtain ⟨rr, rfl, h4⟩ := two_ways h3
          clear h3 hR hy
          cases rr with
          | false =>
            have FIN : Hid (KeepsFrom W4.heap.size V V5 ∧ X7 n m c d J Jx .ret (pre ++ [x]) V5) := by
              rcases h4 with ⟨h, -⟩ | ⟨-, hx5, hk5⟩
              · cases h
              · refine ⟨(keepsFrom_below BA.out).trans (keepsFrom_up hk5 (by have := H0.out.2; omega)), rfl, .inr ⟨_, ?_, hx5⟩⟩
                cases o2 with
                | none => rw [TI.out o bo (by trivial) (by trivial)]; simp only [List.map_append]; exact List.prefix_append _ _
                | some x' => rw [TO.out o x' bo (by trivial) (by trivial)]; exact List.prefix_refl _
            clear h4
            gi_wp2
            exact FIN.out
          | true =>
            obtain ⟨hJ5, kO, kF⟩ : J (ys ++ [(some (bo, o), 0)]) V5 ∧ KeepO n₀ r none V4 V5 ∧ KeepsFrom n₁ V4 V5 := by
              rcases h4 with ⟨-, h⟩ | ⟨h, -⟩
              · exact h
              · cases h
            clear h4
            have k1 := (KeepO.of (n₀ := n₀) (r := r) (X := none) BA.out HI.out.n0).trans kO
            have I5 := hideD (HI.out.any.keep k1 trivial)
            have J5 := hideD hJ5
            have BX5 := hideD (k1.block sX HBX.out rfl)
            have KO := hideD k1
            have KF := hideD ((keepsFrom_below BA.out).trans (keepsFrom_up kF (B' := W4.heap.size) (by have := H0.out.2; omega)))
            have l5 := lt_of BX5.out
            have i5 := I5.out.box.cell
            have y5 := I5.out.y
            have g0 : V5.cell? ⟨Bx, 0, none⟩ = some (.int .i64 (ii : Int)) := by simp [World.cell?, BX5.out]
            have g1 : V5.cell? ⟨Bx, 1, none⟩ = some (.int .i64 (jj : Int)) := by simp [World.cell?, BX5.out]
            have g2 : V5.cell? ⟨Bx, 2, none⟩ = some (.int .i32 dv) := by simp [World.cell?, BX5.out]
            have b6 := below_one V5 (.cells #[.int .i64 (ii : Int), .int .i64 (jj : Int), .int .i32 dv] 90)
            have CC2 := hideD (HC2.out (V5.alloc (.cells #[.int .i64 (ii : Int), .int .i64 (jj : Int), .int .i32 dv] 90)) V5.heap.size (I5.out.z.past b6) (by simp [go_sem]) (by simp [go_sem]) (by simp [go_sem]))
            have B6 := hideD b6
            clear b6 hJ5 kO kF k1
            have TI1 : Hid (o2 = none → leftL n m c d ((pre ++ [x]).map (·.val)) = ((ys ++ [(some (bo, o), 0)] ++ [(none, 10)]).map rowY, none)) := fun h => TI.out o bo (by trivial) h
            have TO1 : Hid (∀ x', o2 = some x' → leftL n m c d ((pre ++ [x]).map (·.val)) = ((ys ++ [(some (bo, o), 0)]).map rowY, some x')) := fun x' h => TO.out o x' bo (by trivial) h
            clear TI TO TN
            gi_wp2
            refine ⟨trivial, fun e => (by cases e), CallsIn.inRound l' ((callsIn_wide.2 CC2.out).mono ?_)⟩
            rintro e V6 ⟨hz2, hb6⟩
            have B7' := hideD (B6.out.trans (hb6.mono B6.out.size))
            have K6 := hideD (KeepO.of (n₀ := n₀) (r := r) (X := none) B7'.out I5.out.n0)
            have I6 := hideD (I5.out.keep K6.out trivial)
            have J6 := hideD (own_below HJ.out J5.out B7'.out)
            have sv := B6.out.size
            have i6 := I6.out.box.cell
            have f6 := I6.out.box.frozen
            have y6 := I6.out.y
            have KS := hideD (fun u => KeepO.store (n₀ := n₀) (r := r) V6 u (x := w1.heap.size) (by have := H0.out.1; omega) I6.out.s4.1)
            have Y7 := hideD (fun u => show (V6.setCell ⟨w1.heap.size, 0, none⟩ u).cell? ⟨W.heap.size, 0, none⟩ = some (.func (.yield l) #[] #[]) by rw [World.cell?_setCell_other _ _ _ _ (by intro e; injection e with e1; omega)]; exact I6.out.y)
            have J7 := hideD (fun u => HSJ.out _ V6 w1.heap.size u J6.out s1 I6.out.s4 ⟨_, i6⟩)
            have KF6 := hideD (fun u => (KF.out.trans (keepsFrom_below B7'.out)).trans ((KeepsOthers.setCell V6 ⟨w1.heap.size, 0, none⟩ u).from W4.heap.size))
            clear hb6 sv
            cases o2 with
            | none =>
              obtain rfl := hz2
              have y7 := Y7.out (.pointer none)
              obtain ⟨fn, tmps, assign, body, hy, hR⟩ := HY.out 0 (ys ++ [(some (bo, o), 0)]) (none, 10) (V6.setCell ⟨w1.heap.size, 0, none⟩ (.pointer none)) (J7.out (.pointer none)) ⟨fun h => (by cases h), fun z e => by cases e⟩
              simp only [encY, Option.map_none] at hy
              gi_wp2
              refine ⟨fun e => (by cases e), (RoundIn.round l' (k - 1 - 1 - 1) hR).mono ?_⟩
              rintro e V8 h3
              obtain ⟨rr, rfl, h4⟩ := two_ways h3
              have FIN : Hid (KeepsFrom W4.heap.size V V8 ∧ X7 n m c d J Jx .ret (pre ++ [x]) V8) := by
                rcases h4 with ⟨-, hJ8, -, hk8⟩ | ⟨-, hx8, hk8⟩
                · exact ⟨(KF6.out _).trans (keepsFrom_up hk8 (by have := H0.out.2; omega)), rfl, .inl ⟨_, TI1.out (by trivial), hJ8⟩⟩
                · exact ⟨(KF6.out _).trans (keepsFrom_up hk8 (by have := H0.out.2; omega)), rfl, .inr ⟨_, by rw [TI1.out (by trivial)]; exact List.prefix_refl _, hx8⟩⟩
              clear h4 h3 hR hy
              gi_wp2
              exact FIN.out
            | some x' =>
              obtain ⟨b2, g20, rfl, hz7⟩ := hz2
              have FIN : Hid (KeepsFrom W4.heap.size V (V6.setCell ⟨w1.heap.size, 0, none⟩ (.pointer (some ⟨b2, 0, none⟩))) ∧ KeepO n₀ r (some w1.heap.size) V (V6.setCell ⟨w1.heap.size, 0, none⟩ (.pointer (some ⟨b2, 0, none⟩))) ∧ II7 n m c d r l W.heap.size w1.heap.size n₀ J (pre ++ [x]) (V6.setCell ⟨w1.heap.size, 0, none⟩ (.pointer (some ⟨b2, 0, none⟩)))) := by
                have n2 : V5.heap.size ≤ b2 := by simp only [World.size_alloc] at g20; omega
                have n4 := lt_of I5.out.box
                have s2 := Safe.fresh (X := none) I5.out.own B7'.out (fun x e => by cases e) n2
                have nr := I6.out.s4.1
                refine ⟨KF6.out _, KO.out.weak.trans (K6.out.weak.trans (KS.out _)), _, x', b2, ⟨TO1.out x' (by trivial), J7.out _, I6.out.box.set _, safe_store _ I6.out.s4 nr, hz7.safe (KS.out _) (s2.with (by omega)), ZO2.out x' (by trivial), safe_store _ s2 nr, by omega, Y7.out _, safe_store _ I6.out.s3 nr, I6.out.own.keep (KS.out _), Nat.le_trans I6.out.n0 (KS.out _).below.size⟩⟩
              gi_wp2
              exact FIN.out
    case done =>
      rintro D xs V hD rfl ⟨ys, xr, bi, hI⟩ hK
      have et : Hid (ys.map rowY = leftY n m c d) := by
        have := hI.told
        rw [fins_vals] at this
        rw [EM.out, this]
        rfl
      have hj := (own_mono HJ.out q4).putObj (.deferred none) hI.j hD hK rfl
      clear hI i0 hz4 hO4 cz c4
      gi_wp2
      refine ⟨by simp, .inl ⟨_, _, rfl, run_takeDeferred hK, ?_⟩⟩
      exact ⟨_, results_none rfl _ _ _, ⟨_, rfl⟩, .inl ⟨ys, et.out, hj⟩⟩
    case stop =>
      rintro D cd pre V hD hpre ⟨rfl, hx⟩ hK
      have R : Hid ((∃ ys : List YE, ys.map rowY = leftY n m c d ∧ J ys (V.putObj D (.deferred none))) ∨ (∃ pre, pre.map rowY <+: leftY n m c d ∧ Jx pre (V.putObj D (.deferred none)))) := by
        rcases hx with ⟨ys, h1, h2⟩ | ⟨p, h1, h2⟩
        · exact .inl ⟨ys, by rw [EM.out, leftL_pre hpre h1], (own_mono HJ.out q4).putObj _ h2 hD hK rfl⟩
        · exact .inr ⟨p, by rw [EM.out]; exact leftL_fin hpre h1, (own_mono HJx.out q4).putObj _ h2 hD hK rfl⟩
      clear i0 hz4 hO4 cz c4
      gi_wp2
      refine ⟨by simp, .inl ⟨_, _, rfl, run_takeDeferred hK, ?_⟩⟩
      exact ⟨_, results_none rfl _ _ _, ⟨_, rfl⟩, R.out⟩
end Go.Proofs.YtnfkmpickmonoaaGreat
