/-
  The walk of PointLeast.
-/
import Derived.Test.YtondgencdcimjaaGreatZq
import Derived.Test.YtondgencdcimjaaGreatAl3z
namespace Go.Proofs.YtondgencdcimjaaGreat
open Go.RowKit Go.Shelf Go.ChangeShapes Go.WideShapes Go.ChangeAt
set_option linter.unusedVariables false
set_option maxRecDepth 100000
theorem SliceAt.later {w w' : World} {v : Value} {l : List Int} (h : SliceAt w v l) (hb : Below w.heap.size w w') : SliceAt w' v l := by
  rcases h with h | ⟨b, off, cap, e, hc⟩
  · exact .inl h
  · exact .inr ⟨b, off, cap, e, fun j hj => kc _ _ hb (hc j hj)⟩
theorem getD_mem {l : List Int} {j : Nat} (hj : j < l.length) : l.getD j 0 ∈ l := by
  rw [List.getD_eq_getElem?_getD, List.getElem?_eq_getElem hj]
  exact List.getElem_mem hj
/-- A list of the call's own, told with an error. -/
def Tells (L : Rats) (e : Int) (W W' : World) (x : Ending) : Prop := ∃ ad cap, x = .returned (.tuple #[.slice ad L.q cap, .int .i64 e]) ∧ (ad = none → L.q = 0 ∧ cap = 0) ∧ RatV W' ad L ∧ NewAt W' W.heap.size ad L.q cap
def LeastP (w : World) (z : Option Addr) (L : Rats) (e : Int) : Prop := ∀ W, Below w.heap.size w W → Calls Tryz.prog 21 #[.pointer z] W fun x W' => Tells L e W W' x ∧ Below W.heap.size W W'
def LeastR (w : World) (z : Option Addr) (L : Rats) (e : Int) : Prop := ∀ W, Below w.heap.size w W → Calls Tryz.prog 22 #[.pointer z] W fun x W' => Tells L e W W' x ∧ Below W.heap.size W W'
def L0 : Rats := ⟨0, fun _ => 0, fun _ => 0⟩
theorem tells_nil (e : Int) (W W' : World) : Tells L0 e W W' (.returned (.tuple #[.slice none 0 0, .int .i64 e])) := ⟨none, 0, rfl, fun _ => ⟨rfl, rfl⟩, fun k hk => absurd hk (Nat.not_lt_zero _), [], World.ownsRow_nil _ _ _ _⟩
theorem full_zero {n m : Nat} {p : Mat} {c : Row} (hm : m = (n + 1) * (n + 1)) (h : Full n m p c) : c 0 = 1 := by
  have a := h.at hm 0 0 (by omega) (by omega)
  have b := h.one 0 (by omega)
  rw [show 0 * (n + 1) + 0 = 0 by omega, b] at a
  rw [a]
  decide
theorem least_both {w' : World} {n : Int} {x : Ending} (h : Both6 w' n x) : ∃ z r L e, x = .returned (.tuple #[.pointer z, .pointer r]) ∧ LeastP w' z L e ∧ LeastR w' r L e ∧ L.q ≤ 8 := by
  rcases h with rfl | ⟨N, c, b, r, B, rfl, N8, rfl, hz, hr, hc, hF⟩
  · exact ⟨none, none, L0, 1, rfl, fun W _ => (leastP_nil W).mono fun x W' ⟨hx, hb⟩ => ⟨hx ▸ tells_nil 1 W W', hb⟩, fun W _ => (rleast_nil W).mono fun x W' ⟨hx, hb⟩ => ⟨hx ▸ tells_nil 1 W W', hb⟩, by decide⟩
  · have mp : 0 < (N + 1) * (N + 1) := Nat.mul_pos (by omega) (by omega)
    by_cases h0 : c 0 < 1
    · exact ⟨_, _, L0, 14, rfl, fun W hb => (leastP_empty b N c W N8 (hz.past hb) h0).mono fun x W' ⟨hx, hb⟩ => ⟨hx ▸ tells_nil 14 W W', hb⟩, fun W hb => (rleast_empty B r N _ c W (hr.past hb) mp (by omega)).mono fun x W' ⟨hx, hb⟩ => ⟨hx ▸ tells_nil 14 W W', hb⟩, by decide⟩
    · obtain ⟨p, hp⟩ := hF h0
      have BB := best_of N8 hp rfl
      have ub := units_bd N8 rfl hp
      have nw : ∀ k, k < N → (newT (unitsF N c k) ((N : Int) + 1)).2.2 = 0 := fun k hk => (newT_small (ub k hk).1 (ub k hk).2 (by omega) (by omega)).1
      refine ⟨_, _, gridL N (unitsF N c) ((N : Int) + 1), 0, rfl, fun W hb => ?_, fun W hb => ?_, N8⟩
      · refine (leastP_any b N _ c W N8 rfl (hz.past hb) hc h0 nw).mono ?_
        rintro x W' ⟨⟨ad, cap, rfl, h1, h2, h3⟩, hb⟩
        exact ⟨⟨ad, cap, rfl, h1, h2, h3⟩, hb⟩
      · refine (rleast_any B r N _ c (bestV N c) W N8 rfl (hr.past hb) hc (full_zero rfl hp) BB nw).mono ?_
        rintro x W' ⟨⟨ad, cap, rfl, h1, h2, h3⟩, hb⟩
        exact ⟨⟨ad, cap, rfl, h1, h2, h3⟩, hb⟩
theorem NewAt.under {W W' : World} {base B : Nat} {ad : Option Addr} {n cap : Nat} (h : NewAt W base ad n cap) (hb : Below B W W') (hB : ∀ b, (Value.slice ad n cap).ownBlock = some b → b < B) : NewAt W' base ad n cap := by
  obtain ⟨xs, h1, h2⟩ := h
  refine ⟨xs, h1, ?_⟩
  rcases h2 with h2 | ⟨g, c, cur, e, hg, hgg, r⟩
  · exact .inl h2
  · exact .inr ⟨g, c, cur, e, hg, (hb.block g (hB g (by rw [e]; rfl))).trans hgg, r⟩
theorem NewAt.lt {W : World} {base : Nat} {ad : Option Addr} {n cap : Nat} (h : NewAt W base ad n cap) : ∀ b, (Value.slice ad n cap).ownBlock = some b → base ≤ b ∧ b < W.heap.size := fun b e => by
  obtain ⟨xs, hx⟩ := h
  exact hx.lt b e
theorem NewAt.past {W W' : World} {base : Nat} {ad : Option Addr} {n cap : Nat} (h : NewAt W base ad n cap) (hb : Below W.heap.size W W') : NewAt W' base ad n cap := h.under hb (fun b e => (h.lt b e).2)
theorem book_new (w : World) : BookAt (w.alloc (.cells #[.slice none 0 0, .slice none 0 0, .slice none 0 0, .slice none 0 0, .slice none 0 0, .slice none 0 0, .slice none 0 0, .slice none 0 0, .slice none 0 0, .slice none 0 0, .slice none 0 0, .slice none 0 0, .slice none 0 0, .slice none 0 0] 56)) w.heap.size (.slice none 0 0) := World.alloc_heap_new w _
/-- Two lists that lie apart. -/
theorem two_alone {w9 : World} {base Bk q cap1 cap2 : Nat} {a1 a2 : Option Addr} {rv : Value} (q8 : q ≤ 8) (hbase : base ≤ w9.heap.size) (hB : BookAt w9 Bk rv) (ho : w9.ownsRow (Bk + 1) 22 1 rv 2 [.slice a1 q cap1, .slice a2 q cap2]) (n1 : NewAt w9 base a1 q cap1) (n2 : NewAt w9 base a2 q cap2)
    (l1 : ∀ b, (Value.slice a1 q cap1).ownBlock = some b → b < Bk) (l2 : ∀ b, (Value.slice a2 q cap2).ownBlock = some b → b < Bk) (ne : ∀ b, (Value.slice a1 q cap1).ownBlock = some b → (Value.slice a2 q cap2).ownBlock ≠ some b) (hk : base ≤ Bk) :
    Calls Tryz.prog 19 #[.pointer (some ⟨Bk, 0, none⟩)] w9 fun e w' => e = .returned (.bool true) ∧ Below base w9 w' := by
  let V : Nat → Value := fun i => if i = 0 then .slice a1 q cap1 else .slice a2 q cap2
  have hL : Lists base 2 V (fun _ => q) (fun h => if (Value.slice a1 q cap1).ownBlock = some h then 0 else 1) := ⟨fun j h hj e => by
    by_cases j0 : j = 0
    · subst j0
      have e : (Value.slice a1 q cap1).ownBlock = some h := e
      show (if _ then 0 else 1) = 0
      rw [if_pos e]
    · have j1 : j = 1 := by omega
      subst j1
      have e : (Value.slice a2 q cap2).ownBlock = some h := e
      show (if _ then 0 else 1) = 1
      rw [if_neg (fun e1 => ne h e1 e)], fun j hj => by show (q + 20) * 16 ≤ _; omega, by decide⟩
  have hV : ∀ i, i < 2 → ([.slice a1 q cap1, .slice a2 q cap2] : List Value)[i]? = some (V i) := fun i hi => by
    match i, hi with
    | 0, _ => rfl
    | 1, _ => rfl
  have lt : ∀ j h, j < 2 → (V j).ownBlock = some h → h < Bk := fun j h hj e => by
    match j, hj with
    | 0, _ => exact l1 h e
    | 1, _ => exact l2 h e
  have own : ∀ j, j < 2 → ∃ xs, OwnR w9 base (V j) q xs := fun j hj => by
    match j, hj with
    | 0, _ => exact n1
    | 1, _ => exact n2
  refine (alone_any base 2 Bk V (fun _ => q) _ rv _ w9 hL hbase hB ho hV lt own).mono ?_
  rintro e w' ⟨rfl, kp⟩
  refine ⟨rfl, kp.toBelow hbase (fun k hs => ?_)⟩
  rcases hs with ⟨j, hj, e⟩ | rfl
  · obtain ⟨xs, hx⟩ := own j hj
    exact (hx.lt k e).1
  · exact hk
set_option maxHeartbeats 4000000 in
theorem pointLeast.walk (n : Int) (wn : (Lit.int .i64 n).wf = true) (v : Value) (l : List Int) (w : World) (hS : SliceAt w v l) (wf : ∀ z ∈ l, (Lit.int .i32 z).wf = true) (hby : l.length * 4 ≤ 140737488355328) (hnl : ∀ {c}, v = .slice none 0 c → c = 0) :
    Calls Tryz.prog 4 #[.int .i64 n, v] w fun e w' => e = .returned (.bool true) ∧ Below w.heap.size w w' := by
  have HO := hideD (both6_any n v l w hS (fun j hj => bounds_i32 (wf _ (getD_mem hj))) (by omega))
  have H0 := hideD (fun W => plive_any W)
  clear hS wf hby hnl wn
  go_enter Tryz.func4, Tryz.ntmps4
  go_wp2_with fail
  refine HO.out.mono ?_
  rintro e w1 ⟨hb6, hb1⟩
  obtain ⟨z, r, L, e, rfl, hP, hR, q8⟩ := least_both hb6
  have B1 := hideD hb1
  have HP := hideD hP
  have HR := hideD hR
  have H1 := hideD (hP w1 (Below.refl _ _))
  clear HO hb6 hb1 hP hR
  go_wp2_with fail
  refine H1.out.mono ?_
  rintro x w2 ⟨⟨a1, c1, rfl, nl1, v1, n1⟩, hb⟩
  have H2 := hideD (HR.out w2 hb)
  have B2 := hideD hb
  have V1 := hideD v1
  have N1 := hideD n1
  clear H1 hb v1 n1 HR
  go_wp2_with fail
  refine H2.out.mono ?_
  rintro x w3 ⟨⟨a2, c2, rfl, nl2, v2, -⟩, hb⟩
  have B3 := hideD (beyondD B2.out hb)
  have V1 := hideD (V1.out.later hb)
  have N1 := hideD (N1.out.past hb)
  have V2 := hideD v2
  clear H2 hb v2 B2
  go_wp2_with fail
  refine (H0.out _).mono ?_
  rintro x w4 ⟨rfl, hb⟩
  have B4 := hideD (beyondD B3.out hb)
  have N1 := hideD (N1.out.past hb)
  have HSm := hideD (same_rats a1 a2 c1 c2 L w4 (V1.out.later hb) (V2.out.later hb) (by omega))
  clear hb B3 V1 V2 H0
  have ee : (e != e) = false := by simp
  go_wp2_with fail
  refine HSm.out.mono ?_
  rintro x w5 ⟨rfl, hb⟩
  have B5 := hideD (beyondD B4.out hb)
  have N1 := hideD (N1.out.past hb)
  have H5 := hideD (HP.out w5 B5.out)
  clear hb B4 HSm HP
  go_wp2_with fail
  refine H5.out.mono ?_
  rintro x w6 ⟨⟨a3, c3, rfl, nl3, -, n3⟩, hb⟩
  have B6 := hideD (beyondD B5.out hb)
  have ne : Hid (∀ b, (Value.slice a1 L.q c1).ownBlock = some b → (Value.slice a3 L.q c3).ownBlock ≠ some b) := fun b e1 e2 => by
    have x1 := (N1.out.lt b e1).2
    have x2 := (n3.lt b e2).1
    omega
  have s5 := B5.out.size
  have N1 := hideD ((N1.out.past hb).mono B1.out.size)
  have N3 := hideD (n3.mono (Nat.le_trans B1.out.size s5))
  have Bk := hideD (book_new w6)
  have Bx := hideD (single w6 (.cells #[.slice none 0 0, .slice none 0 0, .slice none 0 0, .slice none 0 0, .slice none 0 0, .slice none 0 0, .slice none 0 0, .slice none 0 0, .slice none 0 0, .slice none 0 0, .slice none 0 0, .slice none 0 0, .slice none 0 0, .slice none 0 0] 56))
  clear hb B5 H5 n3 s5 nl1 nl2 nl3 ee
  go_wp2_with fail
  generalize w6.alloc (.cells #[.slice none 0 0, .slice none 0 0, .slice none 0 0, .slice none 0 0, .slice none 0 0, .slice none 0 0, .slice none 0 0, .slice none 0 0, .slice none 0 0, .slice none 0 0, .slice none 0 0, .slice none 0 0, .slice none 0 0, .slice none 0 0] 56) = W7 at *
  have H7 := hideD (takeRats_any w6.heap.size 0 L.q c1 (.slice none 0 0) a1 [] W7 Bk.out (World.ownsRow_nil _ _ _ _) (by omega))
  refine H7.out.mono ?_
  rintro x w8 ⟨⟨x', rfl⟩, rv8, hB8, ho8, hb8⟩
  have H8 := hideD (takeRats_any w6.heap.size 1 L.q c3 rv8 a3 [.slice a1 L.q c1] w8 hB8 ho8 (by omega))
  have U8 := hideD hb8
  clear H7 hB8 ho8 hb8 Bk
  go_wp2_with fail
  refine H8.out.mono ?_
  rintro x w9 ⟨⟨x'', rfl⟩, rv9, hB9, ho9, hb9⟩
  have l1 : ∀ b, (Value.slice a1 L.q c1).ownBlock = some b → b < w6.heap.size := fun b e => (N1.out.lt b e).2
  have l3 : ∀ b, (Value.slice a3 L.q c3).ownBlock = some b → b < w6.heap.size := fun b e => (N3.out.lt b e).2
  have T9 : Below w6.heap.size w6 w9 := (Bx.out.trans U8.out).trans hb9
  have W6 := beyondD B1.out B6.out
  have Z9 := hideD (beyondD W6 T9)
  have H9 := hideD (two_alone (base := w.heap.size) q8 Z9.out.size hB9 ho9 (N1.out.under T9 l1) (N3.out.under T9 l3) l1 l3 ne.out W6.size)
  clear H8 hB9 ho9 hb9 l1 l3 T9 W6 U8 Bx N1 N3 ne B6 B1
  go_wp2_with fail
  refine H9.out.mono ?_
  rintro x w10 ⟨rfl, hb⟩
  have Zf := hideD (Z9.out.trans hb)
  clear hb H9 Z9
  go_wp2_with fail
  go_ret
  exact ⟨rfl, Zf.out⟩
end Go.Proofs.YtondgencdcimjaaGreat
