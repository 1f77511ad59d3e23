/-
  Guards by both ways: one answer. Guards that are handed over, opened. The walk of the statement OpsGuards.
-/
import Derived.Test.YtfffcmelkdmjaaaDoorSg3z
import Derived.Test.YtfffcmelkdmjaaaDoorWtz
import Derived.Deep.Slices
import Derived.Deep.Strs
import Derived.Lib.SmallJoins
import Derived.OpenShut
namespace Go.Proofs.YtfffcmelkdmjaaaDoor
open Go.ChangeShapes Go.WideShapes Go.ChangeAt Go.RowKit Go.Deep
set_option linter.unusedVariables false
set_option maxRecDepth 100000
theorem two_conC {w : World} {fp fr n : Nat} {ap ar : Array Value} {c : Row} {L : Lims} (hn : n ≤ 8) (h32 : C32 c) (h3 : ZC n ((n + 1) * (n + 1)) c)
    (C1 : ∀ w', Below w.heap.size w w' → Calls Tryd.prog fp ap w' fun e w'' => ConOut w'' w'.heap.size n e L (oR n c ((n + 1) * (n + 1))) ∧ Below w'.heap.size w' w'')
    (C2 : ∀ o, (c = (fun _ => 0) ∧ o = some (fun _ => 0) ∨ ∃ p, FullC n ((n + 1) * (n + 1)) p c ∧ C32 c ∧ (bndA n L L.q = true → rgtA L L.q = true → Ok n (rcon L L.q (rowMat n (listOf c ((n + 1) * (n + 1))))) ∧ (∀ j, j ≤ n → rcon L L.q (rowMat n (listOf c ((n + 1) * (n + 1)))) 0 j ≤ 1) ∧ zoneR n (rcon L L.q (rowMat n (listOf c ((n + 1) * (n + 1))))) = o)) → ∀ w', Below w.heap.size w w' → Calls Tryd.prog fr ar w' fun e w'' => RconOut w'' n ((n + 1) * (n + 1)) e L o ∧ Below w'.heap.size w' w'') : Two w fp ap fr ar := by
  have C2 : ∃ o', (bndA n L L.q = true → rgtA L L.q = true → RightM n (limK L L.q (oR n c ((n + 1) * (n + 1)))) ∧ zoneR n (drf n ((n + 1) * (n + 1)) (rowsL n (limK L L.q (oR n c ((n + 1) * (n + 1)))) (n + 1))) = o') ∧ ∀ w', Below w.heap.size w w' → Calls Tryd.prog fr ar w' fun e w'' => RconOut w'' n ((n + 1) * (n + 1)) e L o' ∧ Below w'.heap.size w' w'' := by
    rcases h3 with rfl | ⟨pm, hp⟩
    · exact ⟨some fun _ => 0, fun hb hr => ⟨limK_right (fun i j hi hj => by rw [oR_zero]; exact right0) _ hb hr, pm_hollow' rfl (limK_zero (by rw [oR_zero]; exact Int.le_refl _) _)⟩, C2 _ (.inl ⟨rfl, rfl⟩)⟩
    · exact ⟨_, fun hb hr => ⟨limK_right (hp.rightM rfl) _ hb hr, rfl⟩, C2 _ (.inr ⟨pm, hp, h32, fun hb hr => con_same hn rfl hp hb hr⟩)⟩
  obtain ⟨o', hE, C2⟩ := C2
  cases cb : bndA n L L.q with
  | false =>
    refine two_err 12 (fun w' hb => (C1 w' hb).mono fun e w'' ⟨h, hb'⟩ => ⟨?_, hb'⟩) (fun w' hb => (C2 w' hb).mono fun e w'' ⟨h, hb'⟩ => ⟨?_, hb'⟩)
    · rcases h with ⟨-, h⟩ | ⟨h, -⟩ | ⟨h, -⟩
      · exact h
      · rw [cb] at h; cases h
      · rw [cb] at h; cases h
    · rcases h with ⟨-, h⟩ | ⟨h, -⟩ | ⟨h, -⟩
      · exact h
      · rw [cb] at h; cases h
      · rw [cb] at h; cases h
  | true =>
    cases cr : rgtA L L.q with
    | false =>
      refine two_err 2 (fun w' hb => (C1 w' hb).mono fun e w'' ⟨h, hb'⟩ => ⟨?_, hb'⟩) (fun w' hb => (C2 w' hb).mono fun e w'' ⟨h, hb'⟩ => ⟨?_, hb'⟩)
      · rcases h with ⟨h, -⟩ | ⟨-, -, h⟩ | ⟨-, h, -⟩
        · rw [cb] at h; cases h
        · exact h
        · rw [cr] at h; cases h
      · rcases h with ⟨h, -⟩ | ⟨-, -, h⟩ | ⟨-, h, -⟩
        · rw [cb] at h; cases h
        · exact h
        · rw [cr] at h; cases h
    | true =>
      obtain ⟨e1, e2⟩ := hE cb cr
      refine two_zone hn rfl e1 e2 (fun w' hb => (C1 w' hb).mono fun e w'' ⟨h, hb'⟩ => ⟨?_, hb'⟩) (fun w' hb => (C2 w' hb).mono fun e w'' ⟨h, hb'⟩ => ⟨?_, hb'⟩)
      · rcases h with ⟨h, -⟩ | ⟨-, h, -⟩ | ⟨-, -, h⟩
        · rw [cb] at h; cases h
        · rw [cr] at h; cases h
        · exact h
      · rcases h with ⟨h, -⟩ | ⟨-, h, -⟩ | ⟨-, -, h⟩
        · rw [cb] at h; cases h
        · rw [cr] at h; cases h
        · exact h
/-- Guards, by both ways. -/
theorem two_guards {w : World} {p q ad ad' : Option Addr} {o : OZ} {L : Guas} {cap cap' : Nat} (h1 : PZ w p o) (h2 : RZ w q o) (h3 : ZCo o) (hV : GuaV w ad L) (hV' : GuaV w ad' L) (hk : ∀ k, k < L.q → 0 ≤ L.k k ∧ L.k k < 256) (hq : L.q * 32 ≤ 140737488355328) :
    Two w 31 #[.pointer p, .slice ad L.q cap] 32 #[.pointer q, .slice ad' L.q cap'] := by
  cases o with
  | none =>
    obtain rfl := h1
    obtain rfl := h2
    exact two_err 1 (fun w' _ => same_w (guards_nil _ w')) (fun w' _ => same_w (rguards_nil _ w'))
  | some x =>
    obtain ⟨n, c⟩ := x
    obtain ⟨hn, h32, b, rfl, hZ⟩ := h1
    obtain ⟨-, r, B, rfl, hR⟩ := h2
    have C1 : ∀ w', Below w.heap.size w w' → _ := fun w' hb => guards_main b n L.q cap ad c L w' hn (hZ.past hb) h32 rfl (hV.past hb) hk hq
    have C2 : ∀ o hZ w', Below w.heap.size w w' → _ := fun o hZ w' hb => rguards_main r n _ B L.q cap' ad' c o L w' hn rfl (hR.past hb) rfl (hV'.past hb) hk hq hZ
    by_cases e : gErr L L.q = 0
    · refine two_conC (L := limsOf (gLs L L.q)) hn h32 (h3 n c rfl) (fun w' hb => (C1 w' hb).mono fun e' w'' ⟨h, hb'⟩ => ⟨?_, hb'⟩) (fun o hZ w' hb => (C2 o hZ w' hb).mono fun e' w'' ⟨h, hb'⟩ => ⟨?_, hb'⟩)
      · rcases h with ⟨h, -⟩ | ⟨-, h⟩
        · exact absurd e h
        · exact h
      · rcases h with ⟨h, -⟩ | ⟨-, h⟩
        · exact absurd e h
        · exact h
    · have C3 : ∃ o, ∀ w', Below w.heap.size w w' → Calls Tryd.prog 32 #[.pointer (some ⟨r, 0, none⟩), .slice ad' L.q cap'] w' fun e w'' => RguaOut w'' n ((n + 1) * (n + 1)) e L o ∧ Below w'.heap.size w' w'' := by
        rcases h3 n c rfl with rfl | ⟨pm, hp⟩
        · exact ⟨_, C2 _ (.inl ⟨rfl, rfl⟩)⟩
        · exact ⟨_, C2 _ (.inr ⟨pm, hp, h32, fun hb hr => con_same hn rfl hp hb hr⟩)⟩
      obtain ⟨o, C3⟩ := C3
      refine two_err (gErr L L.q) (fun w' hb => (C1 w' hb).mono fun e' w'' ⟨h, hb'⟩ => ⟨?_, hb'⟩) (fun w' hb => (C3 w' hb).mono fun e' w'' ⟨h, hb'⟩ => ⟨?_, hb'⟩)
      · rcases h with ⟨-, h⟩ | ⟨h, -⟩
        · exact h
        · exact absurd h e
      · rcases h with ⟨-, h⟩ | ⟨h, -⟩
        · exact h
        · exact absurd h e
/-- Guards in a slice that is handed over. -/
theorem open_guas {H : Type} {enc : TypeId × Value → H} {w : World} {base : Nat} {spare : Nat → Bool} {held : Bool} {fuel : Nat} {ad : Option Addr} {len cap : Nat} {x : DataW H × List MemPlace}
    (h : DataW.trod enc Tryd.prog w base spare held fuel 41 (Value.slice ad len cap).cells.toList = some x) :
    ∃ L : Guas, L.q = len ∧ GuaV w ad L ∧ (∀ k, k < L.q → 0 ≤ L.k k ∧ L.k k < 256) ∧ (len = 0 ∨ ∃ ds ss, x.1 = .slice ds ss ∧ ds.length = len) := by
  rcases open_slice Tryd.underlying41 h with ⟨h0, _⟩ | ⟨a, len', cap', m, n, D, Pl, h0, hb, hl, hm, hmm, hx', hx⟩
  · simp [Value.cells] at h0
    obtain ⟨rfl, rfl, rfl⟩ := h0
    exact ⟨⟨0, fun _ => 0, fun _ => 0, fun _ => 0, fun _ => 0⟩, rfl, fun k hk => absurd hk (Nat.not_lt_zero _), fun k hk => absurd hk (Nat.not_lt_zero _), .inl rfl⟩
  · simp [Value.cells] at h0
    obtain ⟨rfl, rfl, rfl⟩ := h0
    have hlm : len ≤ m := by rw [hmm]; split <;> omega
    have ce : Tryd.prog.cellsOf 50 = 4 := by kernel_rfl
    have each : ∀ i, i < len → ∃ q : Int × Int × Int × Int, w.cell? (a.add (i * 4)) = some (.int .i64 q.1) ∧ w.cell? (a.add (i * 4 + 1)) = some (.int .i64 q.2.1) ∧ w.cell? (a.add (i * 4 + 2)) = some (.int .u8 q.2.2.1) ∧ w.cell? (a.add (i * 4 + 3)) = some (.int .i64 q.2.2.2) ∧ (0 ≤ q.2.2.1 ∧ q.2.2.1 < 256) := by
      intro i hi
      obtain ⟨cs', h1, h2⟩ := hx i (by omega)
      rw [ce] at h1
      obtain ⟨_, hlen, hcell⟩ := World.cells?_some h1
      obtain ⟨y0, y1, y2, y3, k, -, -, g0, g1, g2, g3⟩ := Go.Joins.trod_struct4 Tryd.underlying50 h2
      match cs', hlen with
      | [v0, v1, v2, v3], _ =>
        have c0 : Tryd.prog.cellsOf 3 = 1 := by kernel_rfl
        have c1 : Tryd.prog.cellsOf 48 = 1 := by kernel_rfl
        simp [c0, c1] at g0 g1 g2 g3
        obtain ⟨z0, e0, _, _⟩ := DataW.trod_int Tryd.underlying3 g0
        obtain ⟨z1, e1, _, _⟩ := DataW.trod_int Tryd.underlying3 g1
        obtain ⟨z2, e2, _, wf⟩ := DataW.trod_int Tryd.underlying48 g2
        obtain ⟨z3, e3, _, _⟩ := DataW.trod_int Tryd.underlying3 g3
        have k0 := hcell 0 (by omega)
        have k1 := hcell 1 (by omega)
        have k2 := hcell 2 (by omega)
        have k3 := hcell 3 (by omega)
        rw [add_add] at k0 k1 k2 k3
        simp at e0 e1 e2 e3
        subst e0 e1 e2 e3
        have := bounds_u8 wf
        exact ⟨(z0, z1, z2, z3), by simpa using k0, by simpa using k1, by simpa using k2, by simpa using k3, by simp only; omega⟩
    obtain ⟨q, hq⟩ := choose_lt each
    refine ⟨⟨len, fun k => (q k).1, fun k => (q k).2.1, fun k => (q k).2.2.1, fun k => (q k).2.2.2⟩, rfl, fun k hk => ?_, fun k hk => (hq k hk).2.2.2.2, .inr ⟨_, _, by rw [hx'], by simp⟩⟩
    obtain ⟨bk, off, spot⟩ := a
    obtain ⟨c0, c1, c2, c3, -⟩ := hq k hk
    have hk' : k < len := hk
    have hspot : spot = none := by have := World.cell?_spot (hq 0 (by omega)).1; simpa [Addr.add] using this
    subst hspot
    rw [Go.WideShapes.add_plain] at c0 c1 c2 c3
    exact ⟨bk, off, rfl, c0, by rw [Nat.add_assoc]; exact c1, by rw [Nat.add_assoc]; exact c2, by rw [Nat.add_assoc]; exact c3⟩
theorem lim_of_tc {w : World} {g : Nat} {T : List Tri3} (h : ∀ j u, (tc T)[j]? = some u → w.cell? ⟨g, j, none⟩ = some u) : LimV w (some ⟨g, 0, none⟩) (limsOf T) := fun k hk => by
  have hk' : k < T.length := hk
  obtain ⟨h0, h1, h2⟩ := tc_at T k hk'
  refine ⟨g, 0, rfl, ?_⟩
  rw [Nat.zero_add]
  exact ⟨h _ _ h0, h _ _ h1, h _ _ h2⟩
/-- What Limits tells, and what its limits are. -/
def LimW (w : World) (v : Value) (x o k n : Int) : Prop := ∃ ad cap, v = .slice ad (limsOf (if gE x o k n = 0 then gT x o k n else [])).q cap ∧ LimV w ad (limsOf (if gE x o k n = 0 then gT x o k n else []))
theorem LimW.past {w w' : World} {v : Value} {x o k n : Int} (h : LimW w v x o k n) (hb : Below w.heap.size w w') : LimW w' v x o k n := by
  obtain ⟨ad, cap, h1, h2⟩ := h
  exact ⟨ad, cap, h1, h2.past hb⟩
theorem limW_of {w' : World} {B : Nat} {e : Ending} {x o k n : Int} (h : LimOut w' B e x o k n) : ∃ v, e = .returned (.tuple #[v, .int .i64 (gE x o k n)]) ∧ LimW w' v x o k n := by
  rcases h with ⟨e1, rfl⟩ | ⟨e1, g, q, cap, rfl, -, -, rfl, hc⟩
  · have e2 : ¬ gE x o k n = 0 := by simpa using e1
    refine ⟨_, rfl, none, 0, by rw [if_neg e2]; rfl, fun k hk => ?_⟩
    rw [if_neg e2] at hk
    exact absurd hk (Nat.not_lt_zero _)
  · refine ⟨_, by rw [e1], some ⟨g, 0, none⟩, cap, by rw [if_pos e1]; rfl, ?_⟩
    rw [if_pos e1]
    exact lim_of_tc hc
theorem same_limW {w : World} {u v : Value} {x o k n : Int} (h1 : LimW w u x o k n) (h2 : LimW w v x o k n) : Calls Tryd.prog 36 #[u, v] w fun e w' => e = .returned (.bool true) ∧ Below w.heap.size w w' := by
  obtain ⟨ad, cap, rfl, hV⟩ := h1
  obtain ⟨ad', cap', rfl, hV'⟩ := h2
  refine same_lims ad ad' cap cap' _ w hV hV' ?_
  have := gT_len x o k n
  show List.length _ ≤ _
  split
  · omega
  · exact Nat.zero_le _
theorem both4s_any (n : Int) (v : Value) (l : List Int) (w : World) (hS : SliceAt w v l) (hi : ∀ j, j < l.length → -2147483648 ≤ l.getD j 0 ∧ l.getD j 0 ≤ 2147483647) (hby : l.length ≤ 9223372036854775807) :
    ∃ o, ZCo o ∧ ∀ w', Below w.heap.size w w' → Calls Tryd.prog 19 #[.int .i64 n, v] w' fun e w'' => (∃ p q, e = .returned (.tuple #[.pointer p, .pointer q]) ∧ Hid (PZ w'' p o) ∧ Hid (RZ w'' q o)) ∧ Hid (Below w'.heap.size w' w'') := by
  obtain ⟨k, o, h1, h2, h3, h4⟩ := two_of n v l w hS hi hby
  refine ⟨o, h3, fun w' hb' => ?_⟩
  have H1 := hideD (h1 w' hb')
  have H2 : Hid (∀ w'', Below w'.heap.size w' w'' → _) := fun w'' hb'' => h2 w'' (beyondD hb' hb'')
  clear h1 h2 hS hi hb'
  go_enter Tryd.func19, Tryd.ntmps19
  go_wp2_with fail
  refine H1.out.mono ?_
  rintro e w1 ⟨⟨p, rfl, hp⟩, hb⟩
  have H3 := hideD (H2.out _ hb.out)
  clear H1 H2
  go_wp2_with fail
  refine H3.out.mono ?_
  rintro e w2 ⟨⟨q, rfl, hq⟩, hb2⟩
  have P2 := hideD (hp.out.past hb2.out)
  have B2 := hideD (beyondD hb.out hb2.out)
  clear H3 hp hb hb2
  go_wp2_with fail
  exact bodyPost_ret (v := .tuple #[.pointer p, .pointer q]) (by simp [results, Tryd.results19, go_sem]) rfl ⟨⟨p, q, rfl, P2, hq⟩, B2⟩
set_option maxHeartbeats 8000000 in
theorem opsGuards.walk (n : Int) (hn : (Lit.int .i64 n).wf = true) (v : Value) (l : List Int) (ad : Option Addr) (cap : Nat) (L : Guas) (w : World) (ht : Pow w) (hS : SliceAt w v l) (wf : ∀ z ∈ l, (Lit.int .i32 z).wf = true) (hby : l.length * 4 ≤ 140737488355328) (hnil : ∀ {c}, v = .slice none 0 c → c = 0) (hV : GuaV w ad L) (hk : ∀ k, k < L.q → 0 ≤ L.k k ∧ L.k k < 256) (hq : L.q * 32 ≤ 140737488355328) :
    Calls Tryd.prog 5 #[.int .i64 n, v, .slice ad L.q cap] w fun e w' => e = .returned (.bool true) ∧ Below w.heap.size w w' := by
  obtain ⟨o, ho, hb⟩ := both4s_any n v l w hS (wf_cells wf) (by omega)
  have HB := hideD (hb w (Below.refl _ _))
  have HP := hideD ht
  have HV := hideD hV
  have HT : Hid (∀ {w : World} {p q : Option Addr} {g cap cap' : Nat}, PZ w p o → RZ w q o → GuaV w (some ⟨g, 0, none⟩) L → GuaV w ad L → _) := fun {w p q g cap cap'} h1 h2 hV hV' => two_guards (cap := cap) (cap' := cap') h1 h2 ho hV hV' hk hq
  have HK : Hid (∀ g w, GuaV w (some ⟨g, 0, none⟩) (roomyG L) → GuaV w ad L → _) := fun g w h1 h2 => kept_guas g ad cap L w h1 h2 hq
  have HH : Hid (∀ w, GuaV w ad L → _) := fun w h1 => hand_guas ad cap L w h1 hq
  have HL1 : Hid (∀ k w', k < L.q → Calls Tryd.prog 34 #[.agg #[.int .i64 (L.a k), .int .i64 (L.o k), .int .u8 (L.k k), .int .i64 (L.n k)]] w' fun e w'' => (∃ v, e = .returned (.tuple #[v, .int .i64 (gE (L.a k) (L.o k) (L.k k) (L.n k))]) ∧ Hid (LimW w'' v (L.a k) (L.o k) (L.k k) (L.n k))) ∧ Hid (Below w'.heap.size w' w'')) := fun k w' hk' => (plim_any (L.a k) (L.o k) (L.k k) (L.n k) w' (hk k hk').1 (hk k hk').2).mono fun e w'' ⟨h1, h2⟩ => by
    obtain ⟨v, e1, e2⟩ := limW_of h1
    exact ⟨⟨v, e1, e2⟩, h2⟩
  have HL2 : Hid (∀ k w', k < L.q → Calls Tryd.prog 35 #[.agg #[.int .i64 (L.a k), .int .i64 (L.o k), .int .u8 (L.k k), .int .i64 (L.n k)]] w' fun e w'' => (∃ v, e = .returned (.tuple #[v, .int .i64 (gE (L.a k) (L.o k) (L.k k) (L.n k))]) ∧ Hid (LimW w'' v (L.a k) (L.o k) (L.k k) (L.n k))) ∧ Hid (Below w'.heap.size w' w'')) := fun k w' hk' => (rlim_any (L.a k) (L.o k) (L.k k) (L.n k) w' (hk k hk').1 (hk k hk').2).mono fun e w'' ⟨h1, h2⟩ => by
    obtain ⟨v, e1, e2⟩ := limW_of h1
    exact ⟨⟨v, e1, e2⟩, h2⟩
  generalize hLq : L.q = m at *
  have HM := hideD hLq
  have m1 : (m : Int) ≤ 9223372036854775807 := by omega
  clear hb ht hS wf hnil hn hby hV hk hLq hq
  go_enter Tryd.func5, Tryd.ntmps5
  go_wp2_with fail
  refine HB.out.mono ?_
  rintro e w1 ⟨⟨p, q, rfl, hp, hq⟩, hb1⟩
  have V1 := hideD (HV.out.past hb1.out)
  have HH1 := hideD (HH.out w1 V1.out)
  clear HB HH
  go_wp2_with fail
  refine HH1.out.mono ?_
  rintro e w2 ⟨rfl, hc, hs, hb2⟩
  have V2 := hideD (V1.out.past hb2)
  have CV := hideD hc
  have P2 := hideD (hp.out.past hb2)
  have Q2 := hideD (hq.out.past hb2)
  have B02 := hideD (beyondD hb1.out hb2)
  obtain ⟨k, o2, u1, u2, -⟩ := HT.out (cap := m + 9) (cap' := cap) P2.out Q2.out (roomyG_front hc) V2.out
  have U1 := hideD (u1 _ (Below.refl _ _))
  have U2 := hideD u2
  generalize w1.heap.size = g at *
  clear HH1 HT u1 u2 hp hq hb1 hb2 hc hs V1
  go_wp2_with fail
  refine U1.out.mono ?_
  rintro e w3 ⟨⟨pa, rfl, hpa⟩, hb3⟩
  have U3 := hideD (U2.out _ hb3.out)
  clear U1 U2
  go_wp2_with fail
  refine U3.out.mono ?_
  rintro e w4 ⟨⟨qa, rfl, hqa⟩, hb4⟩
  have B24 := hideD (beyondD hb3.out hb4.out)
  have PA4 := hideD (hpa.out.past hb4.out)
  have B04 := hideD (beyondD B02.out B24.out)
  have HL := hideD (olive_any w4 (pow_later HP.out B04.out))
  have P4 := hideD (P2.out.past B24.out)
  have Q4 := hideD (Q2.out.past B24.out)
  have V4 := hideD (V2.out.past B24.out)
  have C4 := hideD (CV.out.past B24.out)
  clear U3 hb3 hb4 hpa P2 Q2 V2 CV B02 B24
  go_wp2_with fail
  refine HL.out.mono ?_
  rintro e w5 ⟨rfl, hb5⟩
  have B05 := hideD (beyondD B04.out hb5)
  have HS1 := hideD (same_any (PA4.out.past hb5) (hqa.out.past hb5))
  have P5 := hideD (P4.out.past hb5)
  have Q5 := hideD (Q4.out.past hb5)
  have V5 := hideD (V4.out.past hb5)
  have C5 := hideD (C4.out.past hb5)
  clear HL hb5 PA4 hqa P4 Q4 V4 C4 B04
  go_wp2_with fail
  refine HS1.out.mono ?_
  rintro e w6 ⟨rfl, hb6⟩
  have B06 := hideD (beyondD B05.out hb6)
  have HS2 := hideD (same_any (P5.out.past hb6) (Q5.out.past hb6))
  have V6 := hideD (V5.out.past hb6)
  have C6 := hideD (C5.out.past hb6)
  clear HS1 hb6 P5 Q5 V5 C5 B05
  go_wp2_with fail
  refine HS2.out.mono ?_
  rintro e w7 ⟨rfl, hb7⟩
  have B07 := hideD (beyondD B06.out hb7)
  have HK7 := hideD (HK.out g w7 (C6.out.past hb7) (V6.out.past hb7))
  clear HS2 hb7 V6 C6 B06 HK
  go_wp2_with fail
  refine HK7.out.mono ?_
  rintro e w8 ⟨rfl, hb8⟩
  have B08 := hideD (beyondD B07.out hb8)
  clear HK7 hb8 B07
  go_wp2_with fail
  go_loopw [14] (fun s wr => ∃ (J : Nat), J ≤ m ∧ s = .int .i64 (J : Int) ∧ Hid (Below w.heap.size w wr)) (fun s _ => m - (intOf s).toNat)
  case atStart => exact ⟨0, by omega, rfl, B08⟩
  case round =>
    obtain ⟨J, hJ, rfl, B⟩ := hrel
    clear B08
    by_cases cj : J < m
    · have k0 : (0 : Int) ≤ (J : Int) := by omega
      have k1 : (J : Int) < (m : Int) := by omega
      obtain ⟨gb, off, rfl, c0, c1, c2, c3⟩ := HV.out.past B.out J (by have := HM.out; omega)
      have HX := hideD (fun w' => HL1.out J w' cj)
      have HY := hideD (fun w' => HL2.out J w' cj)
      clear HL1 HL2 HV
      generalize L.a J = xa at *
      generalize L.o J = xo at *
      generalize L.k J = xk at *
      generalize L.n J = xn at *
      go_wp2_with fail
      refine (HX.out _).mono ?_
      rintro e w9 ⟨⟨vx, rfl, hx⟩, hb9⟩
      have d0 := kc _ _ hb9.out c0
      have d1 := kc _ _ hb9.out c1
      have d2 := kc _ _ hb9.out c2
      have d3 := kc _ _ hb9.out c3
      have B9 := hideD (beyondD B.out hb9.out)
      clear HX c0 c1 c2 c3 hb9 B
      go_wp2_with fail
      refine (HY.out _).mono ?_
      rintro e w10 ⟨⟨vy, rfl, hy⟩, hb10⟩
      have HSL := hideD (same_limW (hx.out.past hb10.out) hy.out)
      have B10 := hideD (beyondD B9.out hb10.out)
      generalize gE xa xo xk xn = E at *
      clear HY d0 d1 d2 d3 hb10 B9 hx hy
      go_wp2_with fail
      refine HSL.out.mono ?_
      rintro e w11 ⟨rfl, hb11⟩
      have B11 := hideD (beyondD B10.out hb11)
      clear HSL hb11 B10
      go_wp2_with fail
      go_roundw
      case rel => exact ⟨J + 1, by omega, by go_num, B11⟩
      case measure => simp [intOf]; omega
    · have k1 : ¬ ((J : Int) < (m : Int)) := by omega
      go_wp2_with fail
      go_ret
      exact ⟨rfl, B.out⟩
end Go.Proofs.YtfffcmelkdmjaaaDoor
