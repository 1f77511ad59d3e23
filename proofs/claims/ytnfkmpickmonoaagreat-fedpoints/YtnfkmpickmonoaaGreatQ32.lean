/-
  fed: both of the law.
-/
import Derived.Test.YtnfkmpickmonoaaGreatQ31
namespace Go.Proofs.YtnfkmpickmonoaaGreat
open Go.RowKit Go.Shelf
set_option linter.unusedVariables false
set_option maxRecDepth 100000
attribute [local go_sem] Oper.semAt_some
theorem SameC.grown7 {A B : World} {row : Option Nat} (hg : A.grownBy B row) : SameC row A B := ⟨hg.size, fun b o hb _ ne => (hg.block b (lt_of hb) ne).trans hb⟩
/-- The block is a row of pointers. -/
def PtrX (X : Option Nat) (A : World) : Prop := ∀ x, X = some x → ∃ p, A.cell? ⟨x, 0, none⟩ = some (.pointer p)
theorem zone_ne {A : World} {X : Option Nat} {b n : Nat} {c : Row} (hx : PtrX X A) (h : ZoneAt A b n c) : some b ≠ X := fun e => by
  obtain ⟨p, h1⟩ := hx b e.symm
  rw [h.clocks] at h1
  cases h1
theorem RZone.sameX {A B : World} {X : Option Nat} {B0 r n : Nat} {l : List Int} (hs : SameC X A B) (hx : PtrX X A) (hl : 0 < l.length) (h : RZone A B0 r n l) : RZone B B0 r n l := by
  obtain ⟨g, cap, h1, h2, h3, h4, h5⟩ := h
  have n1 : some r ≠ X := fun e => by
    obtain ⟨p, q⟩ := hx r e.symm
    rw [h1] at q
    cases q
  have n2 : some g ≠ X := fun e => by
    obtain ⟨p, q⟩ := hx g e.symm
    have := h5 0 hl
    rw [Nat.zero_add] at this
    rw [this] at q
    cases q
  exact ⟨g, cap, hs.cell h1 n1, hs.cell h2 n1, h3, h4, fun j hj => hs.cell (h5 j hj) n2⟩
/-- The zones that are there lie in memory, by both. -/
def Zs7 (n : Int) (W : World) (es : List E3) : Prop := ∀ b r c, some (b, r, c) ∈ es → ∃ N : Nat, n = N ∧ N ≤ 8 ∧ ZoneAt W b N c ∧ RZone W 0 r N (listOf c ((N + 1) * (N + 1))) ∧ ZC N ((N + 1) * (N + 1)) c
theorem Zs7.sameX {n : Int} {A B : World} {X : Option Nat} {es : List E3} (hs : SameC X A B) (hx : PtrX X A) (h : Zs7 n A es) : Zs7 n B es := fun b r c hm => by
  obtain ⟨N, h1, h2, h3, h4, h5⟩ := h b r c hm
  exact ⟨N, h1, h2, hs.zone h3 (zone_ne hx h3), h4.sameX hs hx (by rw [listOf_len]; exact Nat.mul_pos (by omega) (by omega)), h5⟩
theorem Zs7.past {n : Int} {A B : World} {es : List E3} (hb : Below A.heap.size A B) (h : Zs7 n A es) : Zs7 n B es := h.sameX (SameC.below hb) (fun x e => by cases e)
theorem Zs7.app {n : Int} {A : World} {es fs : List E3} (h : Zs7 n A es) (k : Zs7 n A fs) : Zs7 n A (es ++ fs) := fun b r c hm => by
  rcases List.mem_append.1 hm with q | q
  · exact h b r c q
  · exact k b r c q
def pv7 (e : E3) : Value := ptr7 (eP e)
def rv7 (e : E3) : Value := rptr7 (eR 0 e)
/-- Both rows. -/
structure Both7 (H : Nat) (n : Int) (W : World) (es : List E3) (va vb : Value) : Prop where
  a : W.ownsRow H 41 1 va es.length (es.map pv7)
  b : W.ownsRow H 44 1 vb es.length (es.map rv7)
  zones : Zs7 n W es
  na : es.length = 0 → va = .slice none 0 0
  nb : es.length = 0 → vb = .slice none 0 0
theorem own_base {w : World} {base base' q : Nat} {T : TypeId} {v : Value} {xs : List Value} (h : w.ownsRow base T 1 v q xs) (hb : base' ≤ base) : w.ownsRow base' T 1 v q xs := by
  refine ⟨h.1, ?_⟩
  rcases h.2 with q | ⟨g, cap, cur, h1, h2, h3⟩
  · exact .inl q
  · exact .inr ⟨g, cap, cur, h1, Nat.le_trans hb h2, h3⟩
theorem Both7.base {H H' : Nat} {n : Int} {W : World} {es : List E3} {va vb : Value} (h : Both7 H n W es va vb) (hb : H' ≤ H) : Both7 H' n W es va vb := ⟨own_base h.a hb, own_base h.b hb, h.zones, h.na, h.nb⟩
theorem own_blk {w : World} {base q k : Nat} {T : TypeId} {v : Value} {xs : List Value} (h : w.ownsRow base T 1 v q xs) (e : v.ownBlock = some k) : base ≤ k ∧ ∃ cur, w.heap[k]? = some (.cells cur T) := by
  rcases own_at h with ⟨rfl, rfl⟩ | ⟨g, cap, rfl, h1, h2, h3⟩
  · cases e
  · injection e with e
    subst e
    exact ⟨h1, h2⟩
theorem own_apart {w : World} {base base' q q' : Nat} {T T' : TypeId} {v v' : Value} {xs xs' : List Value} (h : w.ownsRow base T 1 v q xs) (h' : w.ownsRow base' T' 1 v' q' xs') (ne : T ≠ T') : v.ownBlock = none ∨ v.ownBlock ≠ v'.ownBlock := by
  cases e : v.ownBlock with
  | none => exact .inl rfl
  | some k =>
    refine .inr fun e' => ?_
    obtain ⟨-, c, h1⟩ := own_blk h e
    obtain ⟨-, c', h2⟩ := own_blk h' e'.symm
    rw [h1] at h2
    injection h2 with h2
    injection h2 with _ h2
    exact ne h2
theorem own_ptr {w : World} {base q : Nat} {T : TypeId} {v : Value} {xs : List Value} (h : w.ownsRow base T 1 v q xs) (hx : ∀ u ∈ xs, ∃ p, u = .pointer p) (h0 : q = 0 → v = .slice none 0 0) : PtrX v.ownBlock w := fun x e => by
  by_cases q0 : q = 0
  · rw [h0 q0] at e
    cases e
  · rcases own_at h with ⟨-, h1⟩ | ⟨g, cap, rfl, h1, h2, h3⟩
    · exact absurd h1 q0
    · injection e with e
      simp only at e
      subst e
      have hl : xs.length = q := by have := h.1; omega
      obtain ⟨u, hu⟩ : ∃ u, xs[0]? = some u := ⟨xs[0], List.getElem?_eq_getElem (by omega)⟩
      obtain ⟨p, rfl⟩ := hx u (List.mem_of_getElem? hu)
      exact ⟨p, h3 0 _ (by omega) hu⟩
theorem pv_ptr {es : List E3} : ∀ u ∈ es.map pv7, ∃ p, u = .pointer p := fun u hu => by
  obtain ⟨e, -, rfl⟩ := List.mem_map.1 hu
  exact ⟨_, rfl⟩
theorem rv_ptr {es : List E3} : ∀ u ∈ es.map rv7, ∃ p, u = .pointer p := fun u hu => by
  obtain ⟨e, -, rfl⟩ := List.mem_map.1 hu
  exact ⟨_, rfl⟩
/-- The program's row has grown. -/
theorem both_a {H : Nat} {n : Int} {A A' W : World} {es fs : List E3} {va vb : Value} (h : Both7 H n A es va vb) (hb : Below A.heap.size A A') (hz : Zs7 n A fs) (hg : A'.grownBy W va.ownBlock) : W.ownsRow H 44 1 vb es.length (es.map rv7) ∧ Zs7 n W (es ++ fs) := by
  have ha := own_past h.a hb
  have hbb := own_past h.b hb
  exact ⟨World.ownsRow.kept hbb hg (own_apart hbb ha (by decide)), ((h.zones.app hz).past hb).sameX (SameC.grown7 hg) (own_ptr ha pv_ptr h.na)⟩
/-- And the document's. -/
theorem both_b {H : Nat} {n : Int} {A A' W : World} {es : List E3} {e : E3} {va vb vb' : Value} (ha : A.ownsRow H 41 1 va (es.length + 1) (es.map pv7 ++ [pv7 e])) (hbb : A.ownsRow H 44 1 vb es.length (es.map rv7)) (nb : es.length = 0 → vb = .slice none 0 0) (hz : Zs7 n A (es ++ [e]))
    (hb : Below A.heap.size A A') (hg : A'.grownBy W vb.ownBlock) (hown : W.ownsRow H 44 1 vb' (es.length + 1) (es.map rv7 ++ [rv7 e])) : Both7 H n W (es ++ [e]) va vb' := by
  have ha := own_past ha hb
  have hbb := own_past hbb hb
  refine ⟨?_, ?_, (hz.past hb).sameX (SameC.grown7 hg) (own_ptr hbb rv_ptr nb), fun h => by simp at h, fun h => by simp at h⟩
  · rw [List.length_append, List.map_append]
    exact World.ownsRow.kept ha hg (own_apart ha hbb (by decide))
  · rw [List.length_append, List.map_append]
    exact hown
theorem e3_of {n : Int} {w : World} {p r : Option Addr} {o : OZ7} (h1 : PZo w p o) (h2 : RZo w r o) (hz : ZCo7 o) (hn : ∀ N c, o = some (N, c) → n = (N : Int)) : ∃ e : E3, Value.pointer p = pv7 e ∧ Value.pointer r = rv7 e ∧ Zs7 n w [e] := by
  cases o with
  | none =>
    obtain rfl := h1
    obtain rfl := h2
    exact ⟨none, rfl, rfl, fun b r c hm => by simp at hm⟩
  | some x =>
    obtain ⟨N, c⟩ := x
    obtain ⟨h8, -, b, rfl, hZ⟩ := h1
    obtain ⟨-, g, B, rfl, hR⟩ := h2
    refine ⟨some (b, g, c), rfl, rfl, fun b' r' c' hm => ?_⟩
    rw [List.mem_singleton] at hm
    injection hm with hm
    injection hm with e1 hm
    injection hm with e2 e3
    subst e1 e2 e3
    exact ⟨N, hn N _ rfl, h8, hZ, hR.weak7, hz N _ rfl⟩
theorem one_cell {w : World} {p : Option Addr} {T : TypeId} : ∀ j u, [Value.pointer p][j]? = some u → (w.alloc (.cells #[.pointer p] T)).cell? ((⟨w.heap.size, 0, none⟩ : Addr).add j) = some u := by
  intro j u hj
  rw [Addr.add_lit, World.cell?_alloc_at _ _ _ _ rfl]
  simpa using hj
set_option maxHeartbeats 8000000 in
theorem both7_any (n : Int) (ad : Option Addr) (len cap : Nat) (nl : Bool) (V : Nat → Value) (L : Nat → List Int) (w : World) (hB : Bss w ad len V L) :
    Calls Tryz.prog 6 #[.int .i64 n, .agg #[.slice ad len cap, .bool nl]] w fun e w' => (∃ es va vb, e = .returned (.tuple #[va, vb]) ∧ es.length ≤ 9 ∧ Both7 w.heap.size n w' es va vb) ∧ Below w.heap.size w w' := by
  have HOf : Hid (∀ k, k < len → ∃ kk o, SayP7 w 9 #[.int .i64 n, V k] kk o ∧ SayR7 w 10 #[.int .i64 n, V k] kk o ∧ ZCo7 o ∧ ∀ N c, o = some (N, c) → n = (N : Int)) := fun k hk => by
    obtain ⟨b, off, -, -, h1, h2, h3⟩ := hB k hk
    obtain ⟨kk, o, g1, g2, g3, g4⟩ := two_of7 n (V k) (L k) w h1 (wf_cells7 h2) h3
    exact ⟨kk, o, g1, g2, g3, g4⟩
  have HV : Hid (∀ k, k < len → ∃ b off, ad = some ⟨b, off, none⟩ ∧ w.cell? ⟨b, off + k, none⟩ = some (V k)) := fun k hk => by
    obtain ⟨b, off, h1, h2, -⟩ := hB k hk
    exact ⟨b, off, h1, h2⟩
  obtain ⟨i0, hi0, hzz0, hzz1, hzz2⟩ := info_parts info_zp
  obtain ⟨i1, hi1, hzy0, hzy1, hzy2⟩ := info_parts info_rzp
  have BX := hideD (below_one w (.cells #[.slice ad len cap, .bool nl] 24))
  have cx0 : (w.alloc (.cells #[.slice ad len cap, .bool nl] 24)).cell? ⟨w.heap.size, 0, none⟩ = some (.slice ad len cap) := by simp [go_sem]
  have cx1 : (w.alloc (.cells #[.slice ad len cap, .bool nl] 24)).cell? ⟨w.heap.size, 1, none⟩ = some (.bool nl) := by simp [go_sem]
  have BW : Hid ((w.alloc (.cells #[.slice ad len cap, .bool nl] 24)).heap.size = w.heap.size + 1) := by show _ = _; simp
  clear hB
  go_enter Tryz.func6, Tryz.ntmps6
  go_wp2_with fail
  generalize w.alloc (.cells #[.slice ad len cap, .bool nl] 24) = W1 at *
  go_loopw [6, 7, 8] (fun u v i wr => ∃ (I : Nat) (es : List E3) (va vb : Value), va = u ∧ vb = v ∧ I ≤ 8 ∧ i = .int .i64 (I : Int) ∧ Hid (es.length = I) ∧ Hid (Both7 W1.heap.size n wr es va vb) ∧ Hid (Below W1.heap.size W1 wr)) (fun _ _ i _ => 8 - (intOf i).toNat)
  case atStart => exact ⟨0, [], _, _, rfl, rfl, by omega, rfl, rfl, ⟨World.ownsRow_nil _ _ _ _, World.ownsRow_nil _ _ _ _, fun b r c hm => by (cases hm), fun _ => rfl, fun _ => rfl⟩, Below.refl _ _⟩
  case round =>
    obtain ⟨I, es, va, vb, rfl, rfl, hI, rfl, hes, HB, B⟩ := hrel
    have cy0 := kc _ _ B.out cx0
    have cy1 := kc _ _ B.out cx1
    by_cases c1 : I < len
    · by_cases c8 : I < 8
      · have k1 : (I : Int) < (len : Int) := by omega
        have k8 : (I : Int) < 8 := by omega
        have k0 : (0 : Int) ≤ (I : Int) := by omega
        obtain ⟨gb, off, rfl, c0'⟩ := HV.out I c1
        have B02 := hideD (BX.out.trans (B.out.mono (by have := BW.out; omega)))
        have c0 := kc _ _ B02.out c0'
        obtain ⟨kk, o, sP, sR, zC, nN⟩ := HOf.out I c1
        have SP := hideD (sP wr B02.out)
        have SR := hideD sR
        have ZC' := hideD zC
        have NN := hideD nN
        clear c0' sP sR zC nN
        generalize V I = vI at *
        go_wp2_with fail
        refine SP.out.mono ?_
        rintro e w4 ⟨⟨p4, rfl, hp4⟩, hb4⟩
        have B4 := hideD (beyondD B02.out hb4.out)
        have SR4 := hideD (SR.out w4 B4.out)
        have dy0 := kc _ _ hb4.out cy0
        have dy1 := kc _ _ hb4.out cy1
        have d0 := kc _ _ hb4.out c0
        clear SP SR c0 cy0 cy1
        go_wp2_with fail
        refine SR4.out.mono ?_
        rintro e w5 ⟨⟨p5, rfl, hp5⟩, hb5⟩
        have b5 := beyondD hb4.out hb5.out
        obtain ⟨e7, he1, he2, hz⟩ := e3_of (hp4.out.past hb5.out) hp5.out ZC'.out NN.out
        have HZ := hideD hz
        have HE1 := hideD he1
        have HE2 := hideD he2
        have NB := hideD HB.out.nb
        have HB5 : Hid (Both7 W1.heap.size n w5 es va vb) := ⟨own_past HB.out.a b5, own_past HB.out.b b5, HB.out.zones.past b5, HB.out.na, HB.out.nb⟩
        have B5 := hideD (beyondD B.out b5)
        have e0 := kc _ _ hb5.out dy0
        have e1 := kc _ _ hb5.out dy1
        have sz5 := B5.out.size
        have OA : Hid (w5.ownsRow W1.heap.size 41 1 va I (es.map pv7)) := by have := HB5.out.a; rw [hes.out] at this; exact this
        clear hp4 hp5 hb4 hb5 b5 hz he1 he2 ZC' NN dy0 dy1 d0 HB B SR4 B4 B02
        have HN := hideD (one_cell (w := w5) (p := p4) (T := 41))
        go_wp2_with (at_builtin; first | (refine wpList_append_own _ rfl _ _ 30 rfl W1.heap.size 41 i0 (.pointer none) 1 8 Tryz.underlying30 hi0 hzz0 hzz1 hzz2 rfl (by decide) _ I (es.map pv7) rfl (OA.out.alloc _) ⟨w5.heap.size, 0, none⟩ 1 1 [.pointer p4] rfl rfl HN.out (fun u hu => by simp at hu; subst hu; rfl) (by unfold maxLen; omega) (by omega) (by simp; omega) ?_; intro va' w6 hown' hgrow hnil; have OP := hideD (both_a HB5.out (below_one w5 (.cells #[.pointer p4] 41)) HZ.out hgrow); have OB : Hid (w6.ownsRow W1.heap.size 44 1 vb I (es.map rv7)) := (by have := OP.out.1; rw [hes.out] at this; exact this); have OA6 := hideD hown'; have B6 : Hid (Below W1.heap.size W1 w6) := (B5.out.alloc sz5 _).grown hgrow (by simp; omega) (fun k hk => (own_blk OA.out hk).1); have sz6 := B6.out.size; have HN2 := hideD (one_cell (w := w6) (p := p5) (T := 44)); clear hown' hgrow hnil OA HN HB5 B5) | (refine wpList_append_own _ rfl _ _ 31 rfl W1.heap.size 44 i1 (.pointer none) 1 8 Tryz.underlying31 hi1 hzy0 hzy1 hzy2 rfl (by decide) _ I (es.map rv7) rfl (OB.out.alloc _) ⟨w6.heap.size, 0, none⟩ 1 1 [.pointer p5] rfl rfl HN2.out (fun u hu => by simp at hu; subst hu; rfl) (by unfold maxLen; omega) (by omega) (by simp; omega) ?_; intro vb' w7 hown2 hgrow2 hnil2; have B7 : Hid (Below W1.heap.size W1 w7) := (B6.out.alloc sz6 _).grown hgrow2 (by simp; omega) (fun k hk => (own_blk OB.out hk).1); have H7 : Hid (Both7 W1.heap.size n w7 (es ++ [e7]) va' vb') := both_b (by rw [hes.out, ← HE1.out]; exact OA6.out) (by rw [hes.out]; exact OB.out) NB.out OP.out.2 (below_one w6 (.cells #[.pointer p5] 44)) hgrow2 (by rw [hes.out, ← HE2.out]; exact hown2); clear hown2 hgrow2 hnil2 OA6 OB OP B6 HN2))
        have hl7 : Hid ((es ++ [e7]).length = I + 1) := by have := hes.out; show _ = _; rw [List.length_append, this]; rfl
        exact ⟨⟨I + 1, es ++ [e7], _, _, rfl, rfl, by omega, by go_num, hl7, H7, B7⟩, by simp [intOf]; omega⟩
      · have k1 : (I : Int) < (len : Int) := by omega
        have k8 : ¬ (I : Int) < 8 := by omega
        have sz := BW.out
        have es9 := hes.out
        cases nl with
        | false =>
          have B7 := hideD (BX.out.trans (B.out.mono (by omega)))
          have H7 := hideD (HB.out.base (show w.heap.size ≤ W1.heap.size by omega))
          clear HB B
          go_wp2_with fail
          refine bodyPost_ret (v := .tuple #[va, vb]) (by simp [results, Tryz.results6, go_sem]) rfl ?_
          exact ⟨⟨es, va, vb, rfl, by omega, H7.out⟩, B7.out⟩
        | true =>
          have OA : Hid (wr.ownsRow W1.heap.size 41 1 va I (es.map pv7)) := by have := HB.out.a; rw [hes.out] at this; exact this
          have NB := hideD HB.out.nb
          obtain ⟨e7, he7⟩ : ∃ e7 : E3, e7 = none := ⟨none, rfl⟩
          have HE1 : Hid (Value.pointer none = pv7 e7) := by subst he7; rfl
          have HE2 : Hid (Value.pointer none = rv7 e7) := by subst he7; rfl
          have HZ : Hid (Zs7 n wr [e7]) := by subst he7; exact fun b r c hm => by simp at hm
          have HB5 := HB
          have B5 := B
          have sz5 := B.out.size
          have HN := hideD (one_cell (w := wr) (p := none) (T := 41))
          clear HB B he7
          go_wp2_with (at_builtin; first | (refine wpList_append_own _ rfl _ _ 30 rfl W1.heap.size 41 i0 (.pointer none) 1 8 Tryz.underlying30 hi0 hzz0 hzz1 hzz2 rfl (by decide) _ I (es.map pv7) rfl (OA.out.alloc _) ⟨wr.heap.size, 0, none⟩ 1 1 [.pointer none] rfl rfl HN.out (fun u hu => by simp at hu; subst hu; rfl) (by unfold maxLen; omega) (by omega) (by simp; omega) ?_; intro va' w6 hown' hgrow hnil; have OP := hideD (both_a HB5.out (below_one wr (.cells #[.pointer none] 41)) HZ.out hgrow); have OB : Hid (w6.ownsRow W1.heap.size 44 1 vb I (es.map rv7)) := (by have := OP.out.1; rw [hes.out] at this; exact this); have OA6 := hideD hown'; have B6 : Hid (Below W1.heap.size W1 w6) := (B5.out.alloc sz5 _).grown hgrow (by simp; omega) (fun k hk => (own_blk OA.out hk).1); have sz6 := B6.out.size; have HN2 := hideD (one_cell (w := w6) (p := none) (T := 44)); clear hown' hgrow hnil OA HN HB5 B5) | (refine wpList_append_own _ rfl _ _ 31 rfl W1.heap.size 44 i1 (.pointer none) 1 8 Tryz.underlying31 hi1 hzy0 hzy1 hzy2 rfl (by decide) _ I (es.map rv7) rfl (OB.out.alloc _) ⟨w6.heap.size, 0, none⟩ 1 1 [.pointer none] rfl rfl HN2.out (fun u hu => by simp at hu; subst hu; rfl) (by unfold maxLen; omega) (by omega) (by simp; omega) ?_; intro vb' w7 hown2 hgrow2 hnil2; have B7 : Hid (Below W1.heap.size W1 w7) := (B6.out.alloc sz6 _).grown hgrow2 (by simp; omega) (fun k hk => (own_blk OB.out hk).1); have H7 : Hid (Both7 W1.heap.size n w7 (es ++ [e7]) va' vb') := both_b (by rw [hes.out, ← HE1.out]; exact OA6.out) (by rw [hes.out]; exact OB.out) NB.out OP.out.2 (below_one w6 (.cells #[.pointer none] 44)) hgrow2 (by rw [hes.out, ← HE2.out]; exact hown2); clear hown2 hgrow2 hnil2 OA6 OB OP B6 HN2))
          have B8 := hideD (BX.out.trans (B7.out.mono (by omega)))
          have H8 := hideD (H7.out.base (show w.heap.size ≤ W1.heap.size by omega))
          have hl8 : (es ++ [e7]).length ≤ 9 := by rw [List.length_append]; simp; omega
          clear H7 B7
          refine bodyPost_ret (v := .tuple #[va', vb']) (by simp [results, Tryz.results6, go_sem]) rfl ?_
          exact ⟨⟨es ++ [e7], va', vb', rfl, hl8, H8.out⟩, B8.out⟩
    · have k1 : ¬ (I : Int) < (len : Int) := by omega
      have sz := BW.out
      have es9 := hes.out
      cases nl with
      | false =>
        have B7 := hideD (BX.out.trans (B.out.mono (by omega)))
        have H7 := hideD (HB.out.base (show w.heap.size ≤ W1.heap.size by omega))
        clear HB B
        go_wp2_with fail
        refine bodyPost_ret (v := .tuple #[va, vb]) (by simp [results, Tryz.results6, go_sem]) rfl ?_
        exact ⟨⟨es, va, vb, rfl, by omega, H7.out⟩, B7.out⟩
      | true =>
        have OA : Hid (wr.ownsRow W1.heap.size 41 1 va I (es.map pv7)) := by have := HB.out.a; rw [hes.out] at this; exact this
        have NB := hideD HB.out.nb
        obtain ⟨e7, he7⟩ : ∃ e7 : E3, e7 = none := ⟨none, rfl⟩
        have HE1 : Hid (Value.pointer none = pv7 e7) := by subst he7; rfl
        have HE2 : Hid (Value.pointer none = rv7 e7) := by subst he7; rfl
        have HZ : Hid (Zs7 n wr [e7]) := by subst he7; exact fun b r c hm => by simp at hm
        have HB5 := HB
        have B5 := B
        have sz5 := B.out.size
        have HN := hideD (one_cell (w := wr) (p := none) (T := 41))
        clear HB B he7
        go_wp2_with (at_builtin; first | (refine wpList_append_own _ rfl _ _ 30 rfl W1.heap.size 41 i0 (.pointer none) 1 8 Tryz.underlying30 hi0 hzz0 hzz1 hzz2 rfl (by decide) _ I (es.map pv7) rfl (OA.out.alloc _) ⟨wr.heap.size, 0, none⟩ 1 1 [.pointer none] rfl rfl HN.out (fun u hu => by simp at hu; subst hu; rfl) (by unfold maxLen; omega) (by omega) (by simp; omega) ?_; intro va' w6 hown' hgrow hnil; have OP := hideD (both_a HB5.out (below_one wr (.cells #[.pointer none] 41)) HZ.out hgrow); have OB : Hid (w6.ownsRow W1.heap.size 44 1 vb I (es.map rv7)) := (by have := OP.out.1; rw [hes.out] at this; exact this); have OA6 := hideD hown'; have B6 : Hid (Below W1.heap.size W1 w6) := (B5.out.alloc sz5 _).grown hgrow (by simp; omega) (fun k hk => (own_blk OA.out hk).1); have sz6 := B6.out.size; have HN2 := hideD (one_cell (w := w6) (p := none) (T := 44)); clear hown' hgrow hnil OA HN HB5 B5) | (refine wpList_append_own _ rfl _ _ 31 rfl W1.heap.size 44 i1 (.pointer none) 1 8 Tryz.underlying31 hi1 hzy0 hzy1 hzy2 rfl (by decide) _ I (es.map rv7) rfl (OB.out.alloc _) ⟨w6.heap.size, 0, none⟩ 1 1 [.pointer none] rfl rfl HN2.out (fun u hu => by simp at hu; subst hu; rfl) (by unfold maxLen; omega) (by omega) (by simp; omega) ?_; intro vb' w7 hown2 hgrow2 hnil2; have B7 : Hid (Below W1.heap.size W1 w7) := (B6.out.alloc sz6 _).grown hgrow2 (by simp; omega) (fun k hk => (own_blk OB.out hk).1); have H7 : Hid (Both7 W1.heap.size n w7 (es ++ [e7]) va' vb') := both_b (by rw [hes.out, ← HE1.out]; exact OA6.out) (by rw [hes.out]; exact OB.out) NB.out OP.out.2 (below_one w6 (.cells #[.pointer none] 44)) hgrow2 (by rw [hes.out, ← HE2.out]; exact hown2); clear hown2 hgrow2 hnil2 OA6 OB OP B6 HN2))
        have B8 := hideD (BX.out.trans (B7.out.mono (by omega)))
        have H8 := hideD (H7.out.base (show w.heap.size ≤ W1.heap.size by omega))
        have hl8 : (es ++ [e7]).length ≤ 9 := by rw [List.length_append]; simp; omega
        clear H7 B7
        refine bodyPost_ret (v := .tuple #[va', vb']) (by simp [results, Tryz.results6, go_sem]) rfl ?_
        exact ⟨⟨es ++ [e7], va', vb', rfl, hl8, H8.out⟩, B8.out⟩
end Go.Proofs.YtnfkmpickmonoaaGreat
