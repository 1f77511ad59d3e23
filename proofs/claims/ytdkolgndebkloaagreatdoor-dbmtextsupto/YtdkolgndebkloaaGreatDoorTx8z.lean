/-
  What the document's Parse has read of a text.
-/
import Derived.Test.YtdkolgndebkloaaGreatDoorTx7z
import Derived.Test.YtdkolgndebkloaaGreatDoorZd
namespace Go.Proofs.YtdkolgndebkloaaGreatDoor
open Go.RowKit Go.Shelf
set_option linter.unusedVariables false
set_option maxRecDepth 100000
/-- One limit more. -/
def snocL (L : Lims) (i j b : Int) : Lims := ⟨L.q + 1, fun k => if k = L.q then i else L.i k, fun k => if k = L.q then j else L.j k, fun k => if k = L.q then b else L.b k⟩
theorem tl_congr {L M : Lims} {r : Mat} : ∀ {k : Nat}, (∀ x, x < k → L.i x = M.i x ∧ L.j x = M.j x ∧ L.b x = M.b x) → tlAll L k r = tlAll M k r
  | 0, _ => rfl
  | k + 1, h => by
    unfold tlAll
    rw [tl_congr fun x hx => h x (by omega), (h k (by omega)).1, (h k (by omega)).2.1, (h k (by omega)).2.2]
theorem okA_congr {n : Nat} {L M : Lims} : ∀ {k : Nat}, (∀ x, x < k → L.i x = M.i x ∧ L.j x = M.j x ∧ L.b x = M.b x) → okAll n L k = okAll n M k
  | 0, _ => rfl
  | k + 1, h => by
    unfold okAll okL
    rw [okA_congr fun x hx => h x (by omega), (h k (by omega)).1, (h k (by omega)).2.1, (h k (by omega)).2.2]
theorem fl_congr {L M : Lims} {k : Nat} (h : ∀ x, x < k → L.i x = M.i x ∧ L.j x = M.j x ∧ L.b x = M.b x) : fl L k = fl M k := by
  unfold fl
  apply List.map_congr_left
  intro x hx
  have hx : x < 3 * k := by simpa using hx
  obtain ⟨a, b, c⟩ := h (x / 3) (by omega)
  unfold cv
  rw [a, b, c]
theorem snoc_old (L : Lims) (i j b : Int) : ∀ x, x < L.q → (snocL L i j b).i x = L.i x ∧ (snocL L i j b).j x = L.j x ∧ (snocL L i j b).b x = L.b x := fun x hx => by
  have : ¬ x = L.q := by omega
  simp [snocL, this]
theorem snoc_new (L : Lims) (i j b : Int) : (snocL L i j b).i L.q = i ∧ (snocL L i j b).j L.q = j ∧ (snocL L i j b).b L.q = b := by simp [snocL]
theorem snoc_tl (L : Lims) (i j b : Int) (r : Mat) : tlAll (snocL L i j b) (snocL L i j b).q r = tg (tlAll L L.q r) i.toNat j.toNat b := by
  show tg (tlAll (snocL L i j b) L.q r) ((snocL L i j b).i L.q).toNat ((snocL L i j b).j L.q).toNat ((snocL L i j b).b L.q) = _
  rw [tl_congr (snoc_old L i j b), (snoc_new L i j b).1, (snoc_new L i j b).2.1, (snoc_new L i j b).2.2]
theorem snoc_fl (L : Lims) (i j b : Int) : fl (snocL L i j b) (L.q + 1) = fl L L.q ++ [.int .i64 i, .int .i64 j, .int .i32 b] := by
  rw [fl_next, fl_congr (snoc_old L i j b), (snoc_new L i j b).1, (snoc_new L i j b).2.1, (snoc_new L i j b).2.2]
theorem snoc_ok (n : Nat) (L : Lims) (i j b : Int) (h : okAll n L L.q = true) (hi : 0 ≤ i ∧ i ≤ n ∧ 0 ≤ j ∧ j ≤ n) (hb : rightB b = true) : okAll n (snocL L i j b) (snocL L i j b).q = true := by
  show okAll n (snocL L i j b) (L.q + 1) = true
  unfold okAll okL
  rw [okA_congr (snoc_old L i j b), (snoc_new L i j b).1, (snoc_new L i j b).2.1, (snoc_new L i j b).2.2, h, hb, decide_eq_true hi]
  rfl
structure PSt (s : List UInt8) (N A : Nat) (L : Lims) : Prop where
  st : ReadSt s N (s.drop A) (tlAll L L.q (startR N (N + 1) 0))
  ok : ∀ c p, FullC N ((N + 1) * (N + 1)) p c → s = printZ N c → okAll N L L.q = true
  bd : ∀ k, k < L.q → -2147483648 ≤ L.b k ∧ L.b k ≤ 2147483647
theorem PSt.bad {s T : List UInt8} {x : UInt8} {N A : Nat} {L : Lims} {i j b : Int} (hn : N ≤ 8) (h : PSt s N A L) (hA : s.drop A = x :: T) (ht : TermIs (spT T).1 i j b false) : ∀ c p, FullC N ((N + 1) * (N + 1)) p c → s ≠ printZ N c := fun c p hp e => by
  have st := h.st
  rw [hA] at st
  by_cases hx : x = 32
  · subst hx
    have := (st.term hn ht c p hp e).1
    cases this
  · exact st.head (by simp) (fun T' q => hx (by injection q)) c p hp e
theorem PSt.next {s T : List UInt8} {x : UInt8} {N A k : Nat} {L : Lims} {i j b : Int} (hn : N ≤ 8) (h : PSt s N A L) (hA : s.drop A = x :: T) (hk : (spT T).2 = s.drop k) (ht : TermIs (spT T).1 i j b true) : PSt s N k (snocL L i j b) := by
  have st := h.st
  rw [hA] at st
  have rb := ht.1 rfl
  have bd : ∀ y, y < (snocL L i j b).q → -2147483648 ≤ (snocL L i j b).b y ∧ (snocL L i j b).b y ≤ 2147483647 := fun y hy => by
    by_cases e : y = L.q
    · subst e
      rw [(snoc_new L i j b).2.2]
      have := of_decide_eq_true rb
      omega
    · have hy' : y < L.q := by have : y < L.q + 1 := hy; omega
      rw [(snoc_old L i j b y hy').2.2]
      exact h.bd y hy'
  by_cases hx : x = 32
  · subst hx
    have nx := st.next hn ht
    rw [hk, ← snoc_tl] at nx
    refine ⟨nx, fun c p hp e => ?_, bd⟩
    exact snoc_ok N L i j b (h.ok c p hp e) (st.term hn ht c p hp e).2 rb
  · have no := st.head (by simp) (fun T' q => hx (by injection q))
    refine ⟨?_, fun c p hp e => absurd e (no c p hp), bd⟩
    rw [snoc_tl]
    exact ⟨h.st.fit.tg rb, fun c p hp e => absurd e (no c p hp)⟩
/-- The first place of a blank parts what is left. -/
theorem spT_first {T : List UInt8} {j : Nat} (h : FirstAt 32 T j) : spT T = (T.take j, T.drop j) := by
  obtain ⟨h1, h2, h3⟩ := h
  have hn : ∀ c ∈ T.take j, c ≠ 32 := fun c hc e => by
    obtain ⟨y, hy, e2⟩ := List.getElem_of_mem hc
    have hy' : y < j := by have := hy; simp at this; omega
    refine h2 y hy' ?_
    rw [List.getElem_take] at e2
    rw [List.getElem?_eq_getElem (by omega), e2, e]
  by_cases c : j < T.length
  · have e : T = T.take j ++ 32 :: T.drop (j + 1) := by
      conv => lhs; rw [← List.take_append_drop j T]
      rw [List.drop_eq_getElem_cons c]
      have := h3 c
      rw [List.getElem?_eq_getElem c] at this
      injection this with this
      rw [this]
    have ix : Lib.indexByte T 32 = j := by
      rw [e, idx_at hn]
      simp
      omega
    unfold spT
    rw [ix, if_neg (by omega)]
    simp
  · have ej : j = T.length := by omega
    subst ej
    rw [List.take_length] at hn
    unfold spT
    rw [if_pos (idx_none hn)]
    simp
/-- The beginning of a text. -/
theorem text_head {s : List UInt8} (h : IsText s) : ∃ N : Nat, N ≤ 8 ∧ ∃ R, s = (48 + N.toUInt8) :: 58 :: R := by
  obtain ⟨n, c, hn, -, e⟩ := h
  obtain ⟨R, e2, -⟩ := head_cut n c hn
  exact ⟨n, hn, R, by rw [e, e2, itoa_dig n hn]; rfl⟩
theorem head_no {S : ByteArray} (h : S.size < 2 ∨ (∃ q : 0 < S.size, (S[0].toNat : Int) < 48) ∨ (∃ q : 0 < S.size, (56 : Int) < (S[0].toNat : Int)) ∨ (∃ q : 1 < S.size, ¬ (S[1].toNat : Int) = 58)) : ¬ IsText S.data.toList := fun ht => by
  obtain ⟨N, hN, R, e⟩ := text_head ht
  have dv := dig_val N hN
  have hl := congrArg List.length e
  rw [len_of] at hl
  simp at hl
  rcases h with h | ⟨q, h⟩ | ⟨q, h⟩ | ⟨q, h⟩
  · omega
  · have := get_opt S 0 q
    rw [e] at this
    simp at this
    rw [← this] at h
    revert h dv
    generalize (48 + N.toUInt8).toNat = z
    intro h dv
    omega
  · have := get_opt S 0 q
    rw [e] at this
    simp at this
    rw [← this] at h
    revert h dv
    generalize (48 + N.toUInt8).toNat = z
    intro h dv
    omega
  · have := get_opt S 1 q
    rw [e] at this
    simp at this
    rw [← this] at h
    exact h rfl
theorem u8_dig (x : UInt8) (h0 : 48 ≤ (x.toNat : Int)) (h1 : (x.toNat : Int) ≤ 56) : x = 48 + (x.toNat - 48).toUInt8 := by
  have dv := dig_val (x.toNat - 48) (by omega)
  exact UInt8.toNat_inj.1 (by omega)
theorem head_yes {S : ByteArray} (q : 1 < S.size) (h0 : 48 ≤ (S[0].toNat : Int)) (h1 : (S[0].toNat : Int) ≤ 56) (h2 : (S[1].toNat : Int) = 58) : S.data.toList = Lib.itoa ((S[0].toNat - 48 : Nat) : Int) ++ [58] ++ S.data.toList.drop 2 := by
  have e0 : S.data.toList = S[0] :: S[1] :: S.data.toList.drop 2 := by
    have a := List.drop_eq_getElem_cons (l := S.data.toList) (i := 0) (by rw [len_of]; omega)
    have b := List.drop_eq_getElem_cons (l := S.data.toList) (i := 1) (by rw [len_of]; omega)
    simp only [List.drop_zero, Nat.zero_add, Nat.reduceAdd] at a b
    rw [b] at a
    exact a
  have e1 : S[1] = 58 := UInt8.toNat_inj.1 (by show _ = 58; omega)
  rw [itoa_dig _ (by omega), ← u8_dig _ h0 h1]
  conv => lhs; rw [e0, e1]
  rfl
theorem head_reads {s R : List UInt8} {N : Nat} (hN : N ≤ 8) (h : s = Lib.itoa (N : Int) ++ [58] ++ R) : (cutB 58 s).2.1 = R ∧ readN (cutB 58 s).1 = N := by
  have d : ∀ x ∈ Lib.itoa (N : Int), x ≠ 58 := by
    rw [itoa_dig N hN]
    intro x hx
    rw [List.mem_singleton.1 hx]
    exact (dig_ne N hN).2.2.2
  rw [h, cutB_one d]
  exact ⟨rfl, (readN_itoa N hN).1⟩
theorem readIs_no {s : List UInt8} {Z : Nat → Row → Prop} (h : ReadIs s Z false) : ¬ IsText s := fun ⟨n, c, h1, h2, h3⟩ => by
  have := (h.2 n c h1 h2 h3).1
  cases this
theorem list_empty (m : Nat) : listOf (fun _ => 0) m = List.replicate m 0 := by
  unfold listOf
  rw [List.map_const']
  simp
/-- The document's Limits of a row of the call's own. -/
theorem rlimits_own (n m base : Nat) (L : Lims) (v : Value) (w : World) (h : n ≤ 8) (hm : m = (n + 1) * (n + 1)) (ho : w.ownsRow base 49 3 v L.q (fl L L.q)) (hi : ∀ k, k < L.q → -2147483648 ≤ L.b k ∧ L.b k ≤ 2147483647) (hq : L.q ≤ 9223372036854775807) :
    Calls Tryz.prog 22 #[.int .i64 n, v] w fun e w' => Below w.heap.size w w' ∧
      ((okAll n L L.q = false ∧ e = errOf 7) ∨ (okAll n L L.q = true ∧ ∃ B', RZoneOut w' B' n e ((zoneR n (tlAll L L.q (startR n (n + 1) 0))).map (fun c => listOf c m)))) := by
  cases eq : L.q with
  | zero =>
    rw [eq] at ho
    obtain ⟨ad, cap, rfl⟩ : ∃ ad cap, v = .slice ad 0 cap := by
      rcases ho.2 with ⟨hv, h0⟩ | ⟨g, cap, cur, hv, _⟩
      · exact ⟨_, _, hv⟩
      · exact ⟨_, _, hv⟩
    refine (rlimits_zero n m cap ad w h hm).mono ?_
    rintro e w' ⟨h1, h2⟩
    exact ⟨h1, .inr ⟨rfl, h2⟩⟩
  | succ q =>
    have ho' := ho
    rw [eq] at ho'
    obtain ⟨g, cap, rfl⟩ := own_form3 ho'
    have lt := ho.lt g rfl
    have R : LimRow w g 0 L := cells_row fun j hj => by
      rw [Nat.zero_add, ho'.cellAt j (by omega), ← eq, fl_get _ _ _ hj]
    have P := rlimits_main n g 0 cap m L w h hm R lt.2 hi hq
    rw [eq] at P
    exact P
end Go.Proofs.YtdkolgndebkloaaGreatDoor
