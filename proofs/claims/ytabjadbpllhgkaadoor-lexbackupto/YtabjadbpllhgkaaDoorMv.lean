/-
  The tokens of tokens joined.
-/
import Derived.Test.YtabjadbpllhgkaaDoorMr
import Derived.Test.YtabjadbpllhgkaaDoorMc
import Derived.Test.YtabjadbpllhgkaaDoorMt
namespace Go.Proofs.YtabjadbpllhgkaaDoor
open Go.RowKit
set_option linter.unusedVariables false
abbrev Tk := Int × List UInt8 × Int × Int
def strip (x : Item) : Tk := (x.1, x.2.1.data.toList, x.2.2.1, x.2.2.2.2)
/-- The tokens of a list of bytes, without their places. -/
def toksF : Nat → List UInt8 → List Tk
  | 0, _ => []
  | f + 1, l =>
    if (firstM (l.drop (skipM false l))).1 = 0 then
      ((firstM (l.drop (skipM false l))).2.1, (l.drop (skipM false l)).take (firstM (l.drop (skipM false l))).2.2.1, (firstM (l.drop (skipM false l))).2.2.2, 0) ::
        (if (firstM (l.drop (skipM false l))).2.1 = 0 then [] else toksF f (l.drop (skipM false l + (firstM (l.drop (skipM false l))).2.2.1)))
    else [(0, [], 0, (firstM (l.drop (skipM false l))).1)]
theorem ext_list (s : ByteArray) (b n : Nat) : (s.extract b (b + n)).data.toList = (s.data.toList.drop b).take n := by
  simp only [ByteArray.data_extract, Array.toList_extract, List.extract_eq_take_drop]
  congr 1
  omega
theorem strip_items (s : ByteArray) : ∀ (f a : Nat), (itemsG s f a).map strip = toksF f (s.data.toList.drop a)
  | 0, _ => rfl
  | f + 1, a => by
    have e : (s.data.toList.drop a).drop (skipM false (s.data.toList.drop a)) = s.data.toList.drop (begL s.data.toList a) := by
      rw [List.drop_drop]
      unfold begL
      rfl
    have e2 : tokL s.data.toList a = firstM ((s.data.toList.drop a).drop (skipM false (s.data.toList.drop a))) := by
      rw [e]
      rfl
    rw [itemsG, toksF, ← e2]
    split
    · rw [List.map_cons]
      congr 1
      · unfold strip
        simp only [ext_list, e]
      · split
        · rfl
        · rw [strip_items s f, List.drop_drop]
          congr 1
          unfold begL
          rw [Nat.add_assoc]
    · rfl
/-- Texts, a blank between. -/
def joinT : List Tk → List UInt8
  | [] => []
  | [x] => x.2.1
  | x :: y :: l => x.2.1 ++ 32 :: joinT (y :: l)
/-- A token that stays what it is, wherever it ends or a blank comes. -/
def GoodT (x : Tk) : Prop := ¬ x.1 = 0 ∧ x.2.2.2 = 0 ∧ ∀ r : List UInt8, (r = [] ∨ ∃ q, r = 32 :: q) → skipM false (x.2.1 ++ r) = 0 ∧ firstM (x.2.1 ++ r) = (0, x.1, x.2.1.length, x.2.2.1)
theorem joinT_skip (x : Tk) (l : List Tk) (h : GoodT x) : skipM false (joinT (x :: l)) = 0 ∧ firstM (joinT (x :: l)) = (0, x.1, x.2.1.length, x.2.2.1) := by
  cases l with
  | nil =>
    have := h.2.2 [] (.inl rfl)
    rw [List.append_nil] at this
    exact this
  | cons y l => exact h.2.2 _ (.inr ⟨_, rfl⟩)
theorem tk_eta (x : Tk) (h : x.2.2.2 = 0) : (x.1, x.2.1, x.2.2.1, (0 : Int)) = x := by
  obtain ⟨a, b, c, d⟩ := x
  simp only at h
  rw [h]
theorem toks_join : ∀ (l : List Tk) (f : Nat), l.length + 1 ≤ f → (∀ x ∈ l, GoodT x) → toksF f (joinT l) = l ++ [(0, [], 0, 0)] ∧ toksF f (32 :: joinT l) = l ++ [(0, [], 0, 0)]
  | [], f, hf, _ => by
    cases f with
    | zero => simp at hf
    | succ f => exact ⟨rfl, rfl⟩
  | x :: l, f, hf, hg => by
    cases f with
    | zero => simp at hf
    | succ f =>
      have gx := hg x (List.mem_cons_self ..)
      obtain ⟨s0, f0⟩ := joinT_skip x l gx
      have rest : toksF f ((joinT (x :: l)).drop x.2.1.length) = l ++ [(0, [], 0, 0)] := by
        cases l with
        | nil =>
          have : (joinT [x]).drop x.2.1.length = [] := by show List.drop _ x.2.1 = []; exact List.drop_length
          rw [this]
          cases f with
          | zero => simp at hf
          | succ f => rfl
        | cons y l =>
          have : (joinT (x :: y :: l)).drop x.2.1.length = 32 :: joinT (y :: l) := by show List.drop _ (x.2.1 ++ _) = _; exact List.drop_left
          rw [this]
          exact (toks_join (y :: l) f (by simp at hf ⊢; omega) (fun z hz => hg z (List.mem_cons_of_mem _ hz))).2
      have tk : (joinT (x :: l)).take x.2.1.length = x.2.1 := by
        cases l with
        | nil => show List.take _ x.2.1 = _; exact List.take_length
        | cons y l => show List.take _ (x.2.1 ++ _) = _; exact List.take_left
      constructor
      · rw [toksF, s0, List.drop_zero, f0]
        simp only [if_pos, Nat.zero_add]
        rw [if_neg gx.1, tk, rest, tk_eta x gx.2.1]
        rfl
      · have s1 : skipM false (32 :: joinT (x :: l)) = 1 := by
          rw [skipM, if_pos (by decide), s0]
        rw [toksF, s1, show List.drop 1 (32 :: joinT (x :: l)) = joinT (x :: l) from rfl, f0]
        simp only [if_pos]
        rw [if_neg gx.1, tk, tk_eta x gx.2.1]
        have : List.drop (1 + x.2.1.length) (32 :: joinT (x :: l)) = (joinT (x :: l)).drop x.2.1.length := by rw [Nat.add_comm]; rfl
        rw [this, rest]
        rfl
theorem skip_stop : ∀ (b : Bool) (l : List UInt8), skipM false (l.drop (skipM b l)) = 0
  | true, [] => rfl
  | false, [] => rfl
  | true, c :: l => by
    rw [skipM]
    split
    · rw [Nat.add_comm, List.drop_succ_cons]
      exact skip_stop false l
    · rw [Nat.add_comm, List.drop_succ_cons]
      exact skip_stop true l
  | false, c :: l => by
    by_cases h : blankI (c.toNat : Int) = true
    · have e : skipM false (c :: l) = skipM false l + 1 := by rw [skipM, if_pos h, Nat.add_comm]
      rw [e, List.drop_succ_cons]
      exact skip_stop false l
    · by_cases g : ((c.toNat : Int) == 35) = true
      · have e : skipM false (c :: l) = skipM true l + 1 := by rw [skipM, if_neg h, if_pos g, Nat.add_comm]
        rw [e, List.drop_succ_cons]
        exact skip_stop true l
      · have e : skipM false (c :: l) = 0 := by rw [skipM, if_neg h, if_neg g]
        rw [e, List.drop_zero, e]
theorem skip_head (c : UInt8) (l l' : List UInt8) (h : skipM false (c :: l) = 0) : skipM false (c :: l') = 0 := by
  rw [skipM] at h ⊢
  split at h
  · omega
  · rename_i q
    rw [if_neg q]
    split at h
    · omega
    · rename_i g
      rw [if_neg g]
theorem mate_ne (x : Int) : ¬ mateI x = 32 := by
  unfold mateI
  simp only [beq_iff_eq]
  split
  · omega
  · split
    · omega
    · split
      · omega
      · split <;> omega
theorem pair_blank (c : UInt8) (r : List UInt8) (h : r = [] ∨ ∃ q, r = 32 :: q) : pairL (c :: r) = false := by
  rcases h with rfl | ⟨q, rfl⟩
  · rfl
  · show (((32 : UInt8).toNat : Int) == mateI c.toNat) = false
    have := mate_ne c.toNat
    simp only [beq_eq_false_iff_ne, ne_eq]
    exact fun h => this h.symm
theorem span_app (f : Int → Bool) (h32 : f 32 = false) (r : List UInt8) (h : r = [] ∨ ∃ q, r = 32 :: q) : ∀ l : List UInt8, spanL f (l.take (spanL f l) ++ r) = spanL f l
  | [] => by
    rcases h with rfl | ⟨q, rfl⟩
    · rfl
    · show spanL f (32 :: q) = 0
      rw [spanL, if_neg (by show ¬ f 32 = true; rw [h32]; decide)]
  | c :: l => by
    by_cases g : f c.toNat = true
    · have e : spanL f (c :: l) = spanL f l + 1 := by rw [spanL, if_pos g]
      rw [e, List.take_succ_cons, List.cons_append, spanL, if_pos g, span_app f h32 r h l]
    · have e : spanL f (c :: l) = 0 := by rw [spanL, if_neg g]
      rw [e, List.take_zero]
      rcases h with rfl | ⟨q, rfl⟩
      · rfl
      · show spanL f (32 :: q) = 0
        rw [spanL, if_neg (by show ¬ f 32 = true; rw [h32]; decide)]
theorem good_first (m : List UInt8) (h0 : (firstM m).1 = 0) (hk : ¬ (firstM m).2.1 = 0) (hs : skipM false m = 0) : GoodT ((firstM m).2.1, m.take (firstM m).2.2.1, (firstM m).2.2.2, 0) := by
  refine ⟨hk, rfl, fun r hr => ?_⟩
  have hlen := firstM_len m
  have hp := firstM_pos m h0 hk
  show skipM false (m.take (firstM m).2.2.1 ++ r) = 0 ∧ firstM (m.take (firstM m).2.2.1 ++ r) = (0, (firstM m).2.1, (m.take (firstM m).2.2.1).length, (firstM m).2.2.2)
  rw [List.length_take, Nat.min_eq_left hlen]
  cases m with
  | nil => exact absurd rfl hk
  | cons c l =>
    constructor
    · obtain ⟨n, hn⟩ : ∃ n, (firstM (c :: l)).2.2.1 = n + 1 := ⟨_, (Nat.succ_pred_eq_of_pos hp).symm⟩
      rw [hn, List.take_succ_cons, List.cons_append]
      exact skip_head c l _ hs
    · by_cases a : lttI c.toNat = true
      · have e : firstM (c :: l) = (0, 1, spanL wrdI (c :: l), 0) := by rw [firstM, if_pos a]
        rw [e]
        have sp := span_app wrdI (by decide) r hr (c :: l)
        have w : wrdI (c.toNat : Int) = true := by unfold wrdI; rw [a]; rfl
        have n1 : spanL wrdI (c :: l) = spanL wrdI l + 1 := by rw [spanL, if_pos w]
        show firstM (List.take (spanL wrdI (c :: l)) (c :: l) ++ r) = (0, 1, spanL wrdI (c :: l), 0)
        rw [n1, List.take_succ_cons, List.cons_append] at sp ⊢
        rw [firstM, if_pos a, sp]
      · by_cases b : digI c.toNat = true
        · have e : firstM (c :: l) = numM ((c :: l).take (spanL digI (c :: l))) := by rw [firstM, if_neg a, if_pos b]
          rw [e] at h0 ⊢
          obtain ⟨p1, p2⟩ := numM_pos _ h0
          have le := span_le digI (c :: l)
          rw [List.length_take, Nat.min_eq_left le] at p1
          have sp := span_app digI (by decide) r hr (c :: l)
          have n1 : spanL digI (c :: l) = spanL digI l + 1 := by rw [spanL, if_pos b]
          rw [p1]
          have tk : List.take (spanL digI (c :: l)) (List.take (spanL digI (c :: l)) (c :: l) ++ r) = List.take (spanL digI (c :: l)) (c :: l) := by
            rw [List.take_append_of_le_length (by rw [List.length_take, Nat.min_eq_left le]; exact Nat.le_refl _), List.take_take, Nat.min_self]
          have head : List.take (spanL digI (c :: l)) (c :: l) ++ r = c :: (List.take (spanL digI l) l ++ r) := by rw [n1, List.take_succ_cons, List.cons_append]
          have f2 : firstM (List.take (spanL digI (c :: l)) (c :: l) ++ r) = numM ((List.take (spanL digI (c :: l)) (c :: l) ++ r).take (spanL digI (List.take (spanL digI (c :: l)) (c :: l) ++ r))) := by
            rw [head, firstM, if_neg a, if_pos b]
          rw [f2, sp, tk]
          generalize numM (List.take (spanL digI (c :: l)) (c :: l)) = z at *
          obtain ⟨z0, z1, z2, z3⟩ := z
          simp only at h0 p1 p2
          rw [h0, p1]
        · have e := first_sign c l (by simpa using a) (by simpa using b)
          have two : ∀ n : Nat, List.take (n + 1) (c :: l) ++ r = c :: (List.take n l ++ r) := fun n => by rw [List.take_succ_cons, List.cons_append]
          by_cases q : ((inL lowA c || inL lowC c) && pairL (c :: l)) = true
          · rw [if_pos q] at e
            rw [e]
            cases l with
            | nil => simp [pairL] at q
            | cons d l =>
              show firstM (c :: d :: r) = _
              have e2 := first_sign c (d :: r) (by simpa using a) (by simpa using b)
              rw [if_pos (show ((inL lowA c || inL lowC c) && pairL (c :: d :: r)) = true from q)] at e2
              exact e2
          · rw [if_neg q] at e
            by_cases g : oneA.contains c = true
            · rw [if_pos g] at e
              rw [e]
              show firstM (c :: r) = _
              have e2 := first_sign c r (by simpa using a) (by simpa using b)
              rw [if_neg (by rw [pair_blank c r hr, Bool.and_false]; decide), if_pos g] at e2
              exact e2
            · rw [if_neg g] at e
              rw [e] at h0
              simp at h0
theorem toks_good : ∀ (f : Nat) (l : List UInt8), l.length + 1 ≤ f → (∀ x ∈ toksF f l, x.2.2.2 = 0) → ∃ ts, toksF f l = ts ++ [(0, [], 0, 0)] ∧ ∀ x ∈ ts, GoodT x
  | 0, l, h, _ => by omega
  | f + 1, l, h, q => by
    rw [toksF] at q ⊢
    have sl := skip_le false l
    have fl := firstM_len (l.drop (skipM false l))
    rw [List.length_drop] at fl
    by_cases c : (firstM (l.drop (skipM false l))).1 = 0
    · rw [if_pos c] at q ⊢
      by_cases d : (firstM (l.drop (skipM false l))).2.1 = 0
      · rw [if_pos d]
        have e := end_nil _ c d
        refine ⟨[], ?_, fun x hx => by cases hx⟩
        rw [e]
        rfl
      · rw [if_neg d] at q ⊢
        have p := firstM_pos _ c d
        obtain ⟨ts, h1, h2⟩ := toks_good f (l.drop (skipM false l + (firstM (l.drop (skipM false l))).2.2.1)) (by rw [List.length_drop]; omega) (fun x hx => q x (List.mem_cons_of_mem _ hx))
        refine ⟨_ :: ts, by rw [h1]; rfl, fun x hx => ?_⟩
        rcases List.mem_cons.1 hx with rfl | hx
        · exact good_first _ c d (skip_stop false l)
        · exact h2 x hx
    · rw [if_neg c] at q
      exact absurd (q _ (List.mem_singleton.2 rfl)) c
theorem good_text (x : Tk) (h : GoodT x) : ¬ x.2.1 = [] := by
  intro e
  have := (h.2.2 [] (.inl rfl)).2
  rw [e, List.append_nil] at this
  have k : (0 : Int) = x.1 := congrArg (fun z : Int × Int × Nat × Int => z.2.1) this
  exact h.1 k.symm
theorem join_two (x y : List UInt8) (l : List (List UInt8)) : Lib.join (x :: y :: l) [32] = x ++ 32 :: Lib.join (y :: l) [32] := by
  rw [Lib.join_cons, Lib.join_cons]
  simp [Lib.joinTail]
theorem join_texts : ∀ ts : List Tk, Lib.join (ts.map (·.2.1)) [32] = joinT ts
  | [] => rfl
  | [x] => Lib.join_one _ _
  | x :: y :: l => by
    have := join_texts (y :: l)
    simp only [List.map_cons] at this ⊢
    rw [join_two, this]
    rfl
theorem joinT_len : ∀ ts : List Tk, (∀ x ∈ ts, GoodT x) → ts.length ≤ (joinT ts).length
  | [], _ => Nat.le_refl _
  | [x], h => by
    have := good_text x (h x (List.mem_cons_self ..))
    show 1 ≤ x.2.1.length
    exact List.length_pos_iff.2 this
  | x :: y :: l, h => by
    have := joinT_len (y :: l) (fun z hz => h z (List.mem_cons_of_mem _ hz))
    show (y :: l).length + 1 ≤ (x.2.1 ++ 32 :: joinT (y :: l)).length
    rw [List.length_append, List.length_cons (a := (32 : UInt8))]
    omega
theorem texts_strip : ∀ (l : List Item) (ts : List Tk), l.map strip = ts ++ [(0, [], 0, 0)] → (∀ x ∈ ts, GoodT x) → (textsL l).map (·.data.toList) = ts.map (·.2.1)
  | [], ts, h, _ => by cases ts <;> cases h
  | y :: l, [], h, _ => by
    rw [List.map_cons, List.nil_append] at h
    injection h with h1 h2
    have k : y.1 = 0 := congrArg (fun z : Tk => z.1) h1
    have l0 : l = [] := List.map_eq_nil_iff.1 h2
    subst l0
    unfold textsL
    rw [List.filter_cons, keeps_no1 y k]
    rfl
  | y :: l, x :: ts, h, hg => by
    rw [List.map_cons, List.cons_append] at h
    injection h with h1 h2
    have gx := hg x (List.mem_cons_self ..)
    have ih := texts_strip l ts h2 (fun z hz => hg z (List.mem_cons_of_mem _ hz))
    have k : y.1 = x.1 := congrArg (fun z : Tk => z.1) h1
    have t : y.2.1.data.toList = x.2.1 := congrArg (fun z : Tk => z.2.1) h1
    have ky : keeps y = true := keeps_yes y (by rw [k]; simpa using gx.1) (by
      rw [ByteArray.toList_eq, t]
      cases e : x.2.1 with
      | nil => exact absurd e (good_text x gx)
      | cons a b => rfl)
    unfold textsL at ih ⊢
    rw [List.filter_cons, ky, if_pos rfl, List.map_cons, List.map_cons, List.map_cons, ih, t]
/-- The tokens of the tokens joined are these, but for their places. -/
theorem back_items (s : ByteArray) (q : ∀ x ∈ itemsL s, x.2.2.2.2 = 0) : (itemsL (joinB (itemsL s))).map strip = (itemsL s).map strip := by
  have hs : (itemsL s).map strip = toksF (s.size + 1) s.data.toList := by
    have := strip_items s (s.size + 1) 0
    rw [List.drop_zero] at this
    exact this
  obtain ⟨ts, h1, h2⟩ := toks_good (s.size + 1) s.data.toList (by rw [len_of]; exact Nat.le_refl _) (fun x hx => by
    rw [← hs] at hx
    obtain ⟨y, hy, rfl⟩ := List.mem_map.1 hx
    exact q y hy)
  rw [h1] at hs
  have tj : (joinB (itemsL s)).data.toList = joinT ts := by
    show (Lib.join ((textsL (itemsL s)).map (·.data.toList)) [32]).toArray.toList = _
    rw [texts_strip _ ts hs h2, List.toList_toArray, join_texts]
  have ht := strip_items (joinB (itemsL s)) ((joinB (itemsL s)).size + 1) 0
  rw [List.drop_zero, tj] at ht
  rw [hs]
  have sz : ts.length ≤ (joinB (itemsL s)).size := by
    rw [← len_of, tj]
    exact joinT_len ts h2
  exact ht.trans (toks_join ts _ (by omega) h2).1
theorem back_good (s : ByteArray) (q : ∀ x ∈ itemsL s, x.2.2.2.2 = 0) : ∀ x ∈ itemsL (joinB (itemsL s)), x.2.2.2.2 = 0 := fun x hx => by
  have h := back_items s q
  have : strip x ∈ (itemsL s).map strip := by rw [← h]; exact List.mem_map_of_mem hx
  obtain ⟨y, hy, e⟩ := List.mem_map.1 this
  have k : y.2.2.2.2 = x.2.2.2.2 := congrArg (fun z : Tk => z.2.2.2) e
  rw [← k]
  exact q y hy
theorem strip_parts (x y : Item) (g : strip x = strip y) : x.1 = y.1 ∧ x.2.1 = y.2.1 ∧ x.2.2.1 = y.2.2.1 := by
  refine ⟨congrArg (fun z : Tk => z.1) g, ?_, congrArg (fun z : Tk => z.2.2.1) g⟩
  have t : x.2.1.data.toList = y.2.1.data.toList := congrArg (fun z : Tk => z.2.1) g
  exact ByteArray.ext (Array.toList_inj.1 t)
theorem strip_at (A B : List Item) (e : A.map strip = B.map strip) : A.length = B.length ∧ ∀ k (h : k < B.length) (h' : k < A.length), (A[k]'h').1 = (B[k]'h).1 ∧ (A[k]'h').2.1 = (B[k]'h).2.1 ∧ (A[k]'h').2.2.1 = (B[k]'h).2.2.1 := by
  have l := congrArg List.length e
  rw [List.length_map, List.length_map] at l
  refine ⟨l, fun k h h' => strip_parts _ _ ?_⟩
  have := congrArg (fun z => z[k]?) e
  simp only [List.getElem?_map, List.getElem?_eq_getElem h, List.getElem?_eq_getElem h', Option.map_some, Option.some.injEq] at this
  exact this
theorem items_sum (s : ByteArray) : ∀ (f a : Nat), a ≤ s.size → s.size + 1 ≤ f + a → sumL (itemsG s f a) ≤ 2 * (s.size - a) + f
  | 0, a, h, g => by omega
  | f + 1, a, h, g => by
    rw [itemsG]
    obtain ⟨b0, b1⟩ := beg_le s.data.toList a (by rw [len_of]; exact h)
    have t := tok_len s.data.toList a (by rw [len_of]; exact h)
    rw [len_of] at b1 t
    split
    · rename_i c
      have sz : (s.extract (begL s.data.toList a) (begL s.data.toList a + (tokL s.data.toList a).2.2.1)).size = (tokL s.data.toList a).2.2.1 := by simp; omega
      unfold sumL
      rw [List.map_cons, List.sum_cons, sz]
      split
      · show (tokL s.data.toList a).2.2.1 + 1 + 0 ≤ _
        omega
      · rename_i d
        have p := tok_pos s.data.toList a c d
        have := items_sum s f (begL s.data.toList a + (tokL s.data.toList a).2.2.1) t (by omega)
        unfold sumL at this
        omega
    · show (0 + 1) + 0 ≤ _
      omega
end Go.Proofs.YtabjadbpllhgkaaDoor
