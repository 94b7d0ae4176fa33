/- Package log's Crash does what is asked of it: a range over the records that are whole. -/
import Derived.Test.YtdldgefahgojaakDoorLgLI
import Derived.Test.YtdldgefahgojaakDoorLgLC
import Derived.Test.YtdldgefahgojaakDoorLgLS
import Derived.Test.YtdldgefahgojaakDoorLgLW
import Derived.Test.YtdldgefahgojaakDoorPlains
import Derived.Test.YtdldgefahgojaakDoorAnyF
import Derived.Deep.DeepCutAuto
import Derived.Deep.RegionHeld3
import Derived.Deep.QuietTactic
import Derived.BigQuiet
namespace Go.Proofs.YtdldgefahgojaakDoor
namespace Ev
open Go.RowKit Go.Shelf Fr Ns Fl
set_option linter.unusedSimpArgs false
set_option linter.unusedVariables false
attribute [local go_sem] Oper.semAt_some

theorem range_62 (X : Nat → Value) : (List.range 62).map X = [X 0, X 1, X 2, X 3, X 4, X 5, X 6, X 7, X 8, X 9, X 10, X 11, X 12, X 13, X 14, X 15, X 16, X 17, X 18, X 19, X 20, X 21, X 22, X 23, X 24, X 25, X 26, X 27, X 28, X 29, X 30, X 31, X 32, X 33, X 34, X 35, X 36, X 37, X 38, X 39, X 40, X 41, X 42, X 43, X 44, X 45, X 46, X 47, X 48, X 49, X 50, X 51, X 52, X 53, X 54, X 55, X 56, X 57, X 58, X 59, X 60, X 61] := rfl
theorem high_at {s : LogS} (h : s.safe ≤ s.bytes) (keep : Int) : (s.safe : Int) + min (max keep 0) ((s.bytes : Int) - s.safe) = (highN s keep : Nat) ∧ s.safe ≤ highN s keep ∧ highN s keep ≤ s.bytes := by
  unfold highN
  split
  · omega
  · split
    · omega
    · omega
theorem LogOk.safe_le {s : LogS} (h : LogOk s) : s.safe ≤ s.bytes := by
  obtain ⟨i, hi, e⟩ := h.safe
  have hr : ∀ k j, j < s.marks.length → j + k < s.marks.length → s.marks.getD j 0 ≤ s.marks.getD (j + k) 0 := by
    intro k
    induction k with
    | zero => intro j _ _; exact Nat.le_refl _
    | succ k ih =>
      intro j h1 h2
      have := ih j h1 (by omega)
      have := h.rise (j + k) (by omega)
      rw [show j + (k + 1) = j + k + 1 by omega]
      omega
  have := hr (s.marks.length - 1 - i) i hi (by omega)
  rw [show i + (s.marks.length - 1 - i) = s.marks.length - 1 by omega] at this
  have ht : topM s.marks ≤ s.bytes := h.top
  unfold topM at ht
  omega
/-- what the loop keeps behind k records: how many bytes they have, the flows that they make -/
def CrL (n0 : Nat) (W0 : World) (P : Nat → Nat) (f : Nat → Flows) (k : Nat) (W : World) : Prop :=
  RowAt W n0 3 [.int .i64 (P k : Nat)] ∧ (∃ v ws, RowAt W (n0 + 1) 39 [v] ∧ OwnLs W (fun b => W0.heap.size + 1 < b) v (f k) ws) ∧ ButIn (fun b => b = n0 ∨ b = n0 + 1) W0 W
theorem CrL.firm {n0 : Nat} {W0 : World} {P : Nat → Nat} {f : Nat → Flows} (h0 : W0.heap.size = n0 + 3) : Firm (fun b => False ∨ loopB W0 b) (CrL n0 W0 P f) := by
  rintro k U U' ⟨h1, ⟨v, ws, h2, h3⟩, h4⟩ hb
  have hz := h4.1.size
  have hk : ∀ b, b < W0.heap.size → U'.heap[b]? = U.heap[b]? := fun b hb' => hb.2 b (by omega) (by rintro (h | h | h) <;> omega)
  refine ⟨?_, ⟨v, ws, ?_, h3.keep (fun b hb1 hl => hb.2 b hl (by rintro (h | h | h) <;> omega)) (fun _ h _ => h)⟩, h4.1.trans hb.1, fun b hb1 hb2 => (hk b hb1).trans (h4.2 b hb1 hb2)⟩
  · unfold RowAt at h1 ⊢; rw [hk _ (by omega)]; exact h1
  · unfold RowAt at h2 ⊢; rw [hk _ (by omega)]; exact h2
/-- behind a round -/
theorem CrL.step {n0 : Nat} {W0 U w3 : World} {P : Nat → Nat} {f : Nat → Flows} {k : Nat} {v v' : Value} {ws ws' : List Value} {gb H : Nat} (h0 : W0.heap.size = n0 + 3) (hU : W0.heap.size + 1 < U.heap.size) (h1 : RowAt U n0 3 [.int .i64 (P k : Nat)]) (h2 : RowAt U (n0 + 1) 39 [v])
    (h3 : OwnLs U (fun b => W0.heap.size + 1 < b) v (f k) ws) (h4 : ButIn (fun b => b = n0 ∨ b = n0 + 1) W0 U) (hgb : gb < n0)
    (ho : OwnLs w3 (newQ (fun b => W0.heap.size + 1 < b) (U.setCell ⟨n0, 0, none⟩ (.int .i64 (P (k + 1) : Nat))) w3) v' (f (k + 1)) ws') (hb : ButIn (fun b => v.ownBlock = some b) (U.setCell ⟨n0, 0, none⟩ (.int .i64 (P (k + 1) : Nat))) w3) :
    RowAt w3 (n0 + 1) 39 [v] ∧ CrL n0 W0 P f (k + 1) (w3.setCell ⟨n0 + 1, 0, none⟩ v') ∧ Stays (fun b => recG (n0 + 2) gb H b ∨ loopB W0 b) U (w3.setCell ⟨n0 + 1, 0, none⟩ v') := by
  have hzU : (U.setCell ⟨n0, 0, none⟩ (.int .i64 (P (k + 1) : Nat))).heap.size = U.heap.size := by simp
  have hvo : ∀ b, v.ownBlock = some b → W0.heap.size + 1 < b := h3.own
  have K : ∀ b, b < U.heap.size → v.ownBlock ≠ some b → w3.heap[b]? = (U.setCell ⟨n0, 0, none⟩ (.int .i64 (P (k + 1) : Nat))).heap[b]? := fun b hb1 hb2 => hb.2 b (by rw [hzU]; exact hb1) hb2
  have hz3 : U.heap.size ≤ w3.heap.size := by have := hb.1.size; omega
  have r1 : RowAt w3 n0 3 [.int .i64 (P (k + 1) : Nat)] := by
    have := h1.set 0 (.int .i64 (P (k + 1) : Nat))
    unfold RowAt at this ⊢
    rw [K n0 (by omega) (fun e => by have := hvo _ e; omega)]
    exact this
  have r2 : RowAt w3 (n0 + 1) 39 [v] := by
    have := h2.other (a := ⟨n0, 0, none⟩) (by simp) (.int .i64 (P (k + 1) : Nat))
    unfold RowAt at this ⊢
    rw [K (n0 + 1) (by omega) (fun e => by have := hvo _ e; omega)]
    exact this
  have hst : ∀ b, b < U.heap.size → b ≠ n0 → b ≠ n0 + 1 → v.ownBlock ≠ some b → (w3.setCell ⟨n0 + 1, 0, none⟩ v').heap[b]? = U.heap[b]? := fun b q1 q2 q3 q4 =>
    (stay_set w3 (n0 + 1) 0 b _ q3).trans ((K b q1 q4).trans (stay_set U n0 0 b _ q2))
  refine ⟨r2, ⟨r1.other (by simp) _, ⟨v', ws', r2.set 0 _, ho.keep (fun b q _ => stay_set w3 (n0 + 1) 0 b _ ?_) (fun b q _ => ?_)⟩, ?_⟩, fun b hb' => ?_⟩
  · rcases q with q | q
    · omega
    · omega
  · rcases q with q | q
    · exact q
    · omega
  · refine ⟨((h4.1.setCell (Nat.zero_le _) _).trans hb.1).setCell (Nat.zero_le _) _, fun b q1 q2 => ?_⟩
    exact (hst b (by omega) (fun e => q2 (.inl e)) (fun e => q2 (.inr e)) (fun e => by have := hvo _ e; omega)).trans (h4.2 b q1 q2)
  · rcases hb' with (rfl | ⟨_, rfl⟩) | (rfl | rfl)
    · exact hst _ (by omega) (by omega) (by omega) (fun e => by have := hvo _ e; omega)
    · exact hst _ (by omega) (by omega) (by omega) (fun e => by have := hvo _ e; omega)
    · exact hst _ (by omega) (by omega) (by omega) (fun e => by have := hvo _ e; omega)
    · exact hst _ (by omega) (by omega) (by omega) (fun e => by have := hvo _ e; omega)
/-- behind the loop: the struct's new cells, and the mark taken away -/
theorem crash_end {w W0 U W2 : World} {g n0 N : Nat} {F : Nat → Prop} {cv fv v : Value} {a : Option Addr} {c : Nat} {s : LogS} {B : List Nat} {ws ws' : List Value} {rs : List (List Nat)} {half : List Nat} {keep : Int} (h : LgAt w g F cv (.slice a B.length c) fv s B ws) (hbr : BytesR s B rs half)
    (hn0 : n0 = w.heap.size) (h0 : W0.heap.size = n0 + 3) (hW : Below w.heap.size w W0) (hN : N = leftN' s.marks (highN s keep)) (hNl : N ≤ rs.length) (hP : posR rs N ≤ B.length)
    (h3 : OwnLs U (fun b => W0.heap.size + 1 < b) v (s.done.getD N []) ws') (h4 : ButIn (fun b => b = n0 ∨ b = n0 + 1) W0 U)
    (hR : RowAt W2 g 60 [cv, .slice a (posR rs N) c, .int .i64 (posR rs N : Nat), v, .int .i64 (-1), .bool false]) (hB0 : Below 0 U W2) (hK : ∀ b, b ≠ g → b ≠ W0.heap.size → W2.heap[b]? = U.heap[b]?) :
    MovedL logX (.pointer (some ⟨g, 0, none⟩)) F (crashS s keep) w W2 := by
  have hzw : w.heap.size ≤ U.heap.size := by have := h4.1.size; omega
  have hz2 : U.heap.size ≤ W2.heap.size := hB0.size
  have gl := h.mem.cells.lt
  have hk : ∀ b, b < w.heap.size → b ≠ g → W2.heap[b]? = w.heap[b]? := fun b q1 q2 => (hK b q2 (by omega)).trans ((h4.2 b (by omega) (by rintro (e | e) <;> omega)).trans (hW.block b q1))
  have hlt : leftN' s.marks (highN s keep) < s.done.length := by rw [← hN, hbr.done, doneR_len]; omega
  have hcf : (crashS s keep).flows = s.done.getD N [] := by
    show flowsL (s.done.take (leftN' s.marks (highN s keep) + 1)) = _
    unfold flowsL
    rw [hN, List.length_take, show min (leftN' s.marks (highN s keep) + 1) s.done.length - 1 = leftN' s.marks (highN s keep) by omega, getD_take _ _ _ _ (by omega)]
  have hcm : s.marks.getD (leftN' s.marks (highN s keep)) 0 = posR rs N := by rw [← hN, hbr.marks, marksR_at _ _ _ hNl, Nat.zero_add]; rfl
  have hpl : (B.take (posR rs N)).length = posR rs N := by rw [List.length_take]; omega
  have hob : W2.ownsRow 0 5 1 (.slice a (posR rs N) c) (B.take (posR rs N)).length (u8s (B.take (posR rs N))) := by
    rw [hpl, u8s_take]
    refine own_take (own_keep (fun b hb => ?_) h.mem.bytes) hP
    exact hk b (own_lt h.mem.bytes hb).2.1 (fun e => h.mem.apart.1 (by rw [← e]; exact hb))
  have hof : OwnLs W2 (newQ (Qo F g (.slice a B.length c)) w W2) v (s.done.getD N []) ws' := h3.keep (fun b q hl => hK b (by omega) (by omega)) (fun b q hl => .inr ⟨by omega, by omega⟩)
  have hM := h.mem.newF (sf' := posR rs N) hR (fun b q1 q2 _ => hk b q1 q2) (by omega) hob (fun b hb => by cases a with
    | none => simp [Value.ownBlock] at hb
    | some x => exact hb) hof (fun b hb => .inr (by have := h3.own b hb; omega))
  refine moved_of (cv := cv) (bv := .slice a (posR rs N) c) (fv := v) (s := crashS s keep) (B := B.take (posR rs N)) (ws := ws') ⟨?_, ?_, ⟨rs.take N, [], hbr.crash hN hNl, fun _ => rfl⟩, by show (-1 : Int) ≤ _; omega⟩ ⟨((hW.mono (Nat.zero_le _)).trans h4.1).trans hB0, fun b q1 q2 => hk b q1 (fun e => q2 (by rw [e]; exact h.mem.own))⟩
  · show LgMem W2 g (Fn F w W2) _ _ _ s.caps (s.marks.getD (leftN' s.marks (highN s keep)) 0) (-1) false (B.take (posR rs N)) (crashS s keep).flows _
    rw [hcf, hcm]
    exact hM
  · show s.marks.getD (leftN' s.marks (highN s keep)) 0 = _
    rw [hcm, hpl]

set_option maxRecDepth 100000 in
set_option maxHeartbeats 4000000 in
theorem lcrash_said : LCrashSaid logX := by
  rintro p F s keep w ⟨g, cv, bv, fv, B, ws, rfl, h⟩ hf
  obtain ⟨-, ⟨a, c, rfl⟩, -⟩ := h.mem.shape
  have hlen := h.len
  have hB : B.length ≤ 1000000 := by have := hf.1.bytes_le; have := hf.2; omega
  obtain ⟨rs, half, hbr, -⟩ := h.recs
  obtain ⟨e1, e2, e3⟩ := high_at hf.1.safe_le keep
  rw [hlen] at e1 e3
  obtain ⟨H, hH⟩ : ∃ H, Hid (H = highN s keep) := ⟨_, rfl⟩
  rw [← hH.out] at e1 e2 e3
  obtain ⟨N, n1, n2, n3, n4, n5⟩ := bytes_upto hbr e3
  have hN : Hid (N = leftN' s.marks (highN s keep)) := by rw [← hH.out]; exact n1
  obtain ⟨kk, hkk⟩ : ∃ kk, min (max keep 0) ((B.length : Int) - s.safe) = kk := ⟨_, rfl⟩
  rw [hkk] at e1
  have q1 : IntKind.i64.wrap ((B.length : Int) - s.safe) = (B.length : Int) - s.safe := by rw [IntKind.wrap_i64]; omega
  have q2 : IntKind.i64.wrap ((s.safe : Int) + kk) = (H : Nat) := by rw [IntKind.wrap_i64]; omega
  obtain ⟨c0, c1, c2, c3, c4, c5, f0, gl⟩ := h.mem.six
  refine callsIn_wide.1 (callsIn_of_wp_marks (F := Fence.wide) (n := 5) Tryd.func12 rfl trivial ?_ rfl)
  refine wpIn_wide.2 ?_
  simp only [Tryd.ntmps12, List.size_toArray, List.length_cons, List.length_nil, Nat.reduceAdd, Nat.reduceSub, Array.replicate_succ, Array.replicate_zero, List.push_toArray, List.append_toArray, List.nil_append, List.cons_append]
  have hac : H ≤ c := by
    rcases own_cell h.mem.bytes with ⟨x, _⟩ | ⟨_, _, x, _⟩ <;> omega
  have HL : Hid (LgAt w g F cv (.slice a B.length c) fv s B ws) := h
  have HBR : Hid (BytesR s B rs half) := hbr
  clear e1 n1
  have HF : Hid (FewL s) := hf
  clear h hbr hf c0 c3 c4 c5 f0
  go_wp2_with fail
  go_quiet (fail)
  have hy1 : (w.drewN nq).cell? ⟨g, 1, none⟩ = some (.slice a B.length c) := c1
  have hy2 : (w.drewN nq).cell? ⟨g, 2, none⟩ = some (.int .i64 s.safe) := c2
  have hyz : Hid ((w.drewN nq).heap = w.heap) := rfl
  have hyb : Hid (Below w.heap.size w (w.drewN nq)) := below_drewN (Below.refl _ _) _
  generalize w.drewN nq = wy at *
  have gy : g < wy.heap.size := by rw [hyz.out]; exact gl
  go_wp2_with fail
  go_quiet (fail)
  have hzz : Hid ((wy.drewN nq).heap = w.heap) := hyz
  have hzb : Hid (Below w.heap.size w (wy.drewN nq)) := below_drewN hyb.out _
  generalize wy.drewN nq = wz at *
  have hzs : wz.heap.size = w.heap.size := by rw [hzz.out]
  clear hy1 hy2 hyz hyb gy c1 c2 hkk q1 q2
  go_wp2_with fail
  refine (lrecords_any _ _ _ _).mono ?_
  rintro e w1 ⟨rfl, rfl⟩
  go_wp2_with fail
  obtain ⟨W0, hW0⟩ : ∃ W0, W0 = (((wz.alloc (.cells #[.int .i64 0] 3)).alloc (.cells #[.slice none 0 0] 39)).alloc (.cells #[.slice a H c] 58)) := ⟨_, rfl⟩
  have s0 : W0.heap.size = w.heap.size + 3 := by rw [hW0]; simp [hzs]
  have B0 : Below w.heap.size w W0 := by rw [hW0]; exact ((hzb.out.alloc (by omega) _).alloc (by simp; omega) _).alloc (by simp; omega) _
  have R0 : RowAt W0 w.heap.size 3 [.int .i64 0] := by rw [hW0]; exact ((row_made wz _ _ _ _ hzs.symm rfl).alloc _).alloc _
  have R1 : RowAt W0 (w.heap.size + 1) 39 [.slice none 0 0] := by rw [hW0]; exact (row_made _ _ _ _ _ (by simp [hzs]) rfl).alloc _
  have R2 : RowAt W0 (w.heap.size + 2) 58 [.slice a H c] := by rw [hW0]; exact row_made _ _ _ _ _ (by simp [hzs]) rfl
  rw [← hW0]
  obtain ⟨gb, hA, hgb, hcl⟩ : ∃ gb, (0 < H → a = some ⟨gb, 0, none⟩) ∧ gb < w.heap.size ∧ ∀ k, k < H → W0.cell? ⟨gb, k, none⟩ = some (.int .u8 (B.getD k 0 : Nat)) := by
    rcases own_cell HL.out.mem.bytes with ⟨x, _⟩ | ⟨gb, rfl, _, _, _, hc⟩
    · exact ⟨g, fun h => by omega, gl, fun k hk => by omega⟩
    · exact ⟨gb, fun _ => rfl, (own_lt HL.out.mem.bytes (g := gb) rfl).2.1, fun k hk => cell_later B0 (hc k _ (u8s_at (by omega)))⟩
  have hcm : c ≤ 9223372036854775807 := by
    rcases own_cell HL.out.mem.bytes with ⟨_, x, _⟩ | ⟨_, _, _, x, _⟩
    · omega
    · unfold maxLen at x; omega
  have hsm : ∀ k, B.getD k 0 ≤ 255 := fun k => by
    by_cases hk : k < B.length
    · exact HBR.out.small _ (by rw [List.getD, List.getElem?_eq_getElem hk]; exact List.getElem_mem _)
    · rw [List.getD, List.getElem?_eq_none (by omega)]; simp
  have hseq := lrecs_go (w.heap.size + 2) gb H c N a B (posR rs) W0 (R2.cell rfl) hA hcl hac hcm (by omega) hsm (posR_0 rs) n3 n4 n5
  have HBh : Hid (∀ (k : Nat) (U : World) (v : Value) (wsk : List Value), k < N → W0.heap.size + 1 < U.heap.size → OwnLs U (fun b => W0.heap.size + 1 < b) v (s.done.getD k []) wsk → ButIn (fun b => b = w.heap.size ∨ b = w.heap.size + 1) W0 U →
      Calls Tryd.prog 34 #[v, .slice (some ⟨gb, posR rs k, none⟩) (posR rs (k + 1) - posR rs k) (c - posR rs k)] (U.setCell ⟨w.heap.size, 0, none⟩ (.int .i64 (posR rs (k + 1) : Nat))) fun e w' => ∃ v' ws', e = .returned v' ∧
        OwnLs w' (newQ (fun b => W0.heap.size + 1 < b) (U.setCell ⟨w.heap.size, 0, none⟩ (.int .i64 (posR rs (k + 1) : Nat))) w') v' (s.done.getD (k + 1) []) ws' ∧ ButIn (fun b => v.ownBlock = some b) (U.setCell ⟨w.heap.size, 0, none⟩ (.int .i64 (posR rs (k + 1) : Nat))) w') := fun k U v wsk hk hU h3 h4 => by
    have hkr : k < rs.length := by omega
    have hps := posR_step rs k hkr
    have hpl : posR rs (k + 1) ≤ H := (n3 k hk).2
    have hmay := allR_at rs [] k hkr HBR.out.all
    rw [← HBR.out.done] at hmay
    have hst : s.done.getD (k + 1) [] = stepR (s.done.getD k []) (rs.getD k []) := by rw [HBR.out.done]; exact doneR_at rs [] k hkr
    have h6 : (s.done.getD k []).length ≤ 6 := by
      have hkd : k < s.done.length := by rw [HBR.out.done, doneR_len]; omega
      exact (HF.out.1.nets _ (by rw [List.getD, List.getElem?_eq_getElem hkd]; exact List.getElem_mem _)).1
    have := lbehind_any v (s.done.getD k []) wsk (rs.getD k []) gb (posR rs k) (c - posR rs k) (U.setCell ⟨w.heap.size, 0, none⟩ (.int .i64 (posR rs (k + 1) : Nat)))
      (h3.keep (fun b hb _ => stay_set U w.heap.size 0 b _ (by omega)) (fun _ h _ => h)) (fun j hj => ?_) hmay (by omega) (by omega) h6
    · rw [show posR rs (k + 1) - posR rs k = (rs.getD k []).length by omega, hst]
      refine this.mono ?_
      rintro e w' ⟨v', ws', q1, q2, q3, _⟩
      exact ⟨v', ws', q1, q2, q3⟩
    · have e := at_rec (half := half) hkr hj
      rw [← HBR.out.bytes] at e
      rw [← e, ← hcl (posR rs k + j) (by omega)]
      refine World.cell?_of_block (a := ⟨gb, posR rs k + j, none⟩) ?_
      exact (stay_set U w.heap.size 0 gb _ (by omega)).trans (h4.2 gb (by omega) (by rintro (e | e) <;> omega))
  have HPos : Hid (∀ k, k < N → posR rs k ≤ posR rs (k + 1) ∧ posR rs (k + 1) ≤ H) := fun k hk => ⟨posR_mono rs _ _ (by omega), (n3 k hk).2⟩
  refine (wpIn_wide (n := 5)).1 ?_
  have hd0 : s.done.getD 0 [] = [] := by rw [HBR.out.done]; cases rs <;> rfl
  have hH6 : H ≤ 1000000 := by omega
  clear hA hcl hsm n3 n5 hW0 hzz hzb hzs
  refine range_go (gf := 49) (lb := #[.pointer (some ⟨w.heap.size + 2, 0, none⟩)]) rfl (enters_of Tryd.func49 (by kernel_rfl) rfl) hseq (fun _ => rfl)
    (fun b hb => by rcases hb with rfl | ⟨_, rfl⟩ <;> omega) (fun _ h => h.elim) (CrL w.heap.size W0 (posR rs) (fun k => s.done.getD k [])) (fun _ _ _ => False) (CrL.firm s0) (fun _ _ _ _ h _ => h)
    ⟨by rw [posR_0]; exact R0, ⟨_, [], R1, by show OwnLs _ _ _ (s.done.getD 0 []) _; rw [hd0]; exact OwnLs.nil _ _⟩, ButIn.refl _ _⟩
    (fun k a' _ => Slots 62 [(0, .pointer (some ⟨g, 0, none⟩)), (5, .pointer (some ⟨w.heap.size, 0, none⟩)), (6, .pointer (some ⟨w.heap.size + 1, 0, none⟩)), (7, .slice (some ⟨gb, posR rs k, none⟩) (posR rs (k + 1) - posR rs k) (c - posR rs k))] a') (fun _ _ _ _ h _ => h) ?assign ?body ?done ?stop
  case assign =>
    intro k W K hk hi hK
    clear hk
    gi_wp2
    exact hK _ _ (Stays.refl _ _) hi ⟨rfl, rfl, rfl, rfl, rfl, rfl, trivial⟩
  case body =>
    rintro k a' U hk hsl ⟨h1, ⟨v, wsk, h2, h3⟩, h4⟩ hSl
    obtain ⟨Y, rfl, hY⟩ := hSl.lay
    obtain ⟨y0, y1, y2, y3, -⟩ := hY
    rw [range_62]
    simp only [y0, y1, y2, y3]
    clear hSl y0 y1 y2 y3
    have HC : Hid (Calls Tryd.prog 34 #[v, .slice (some ⟨gb, posR rs k, none⟩) (posR rs (k + 1) - posR rs k) (c - posR rs k)] (U.setCell ⟨w.heap.size, 0, none⟩ (.int .i64 (posR rs (k + 1) : Nat))) fun e w' => ∃ v' ws', e = .returned v' ∧
        OwnLs w' (newQ (fun b => W0.heap.size + 1 < b) (U.setCell ⟨w.heap.size, 0, none⟩ (.int .i64 (posR rs (k + 1) : Nat))) w') v' (s.done.getD (k + 1) []) ws' ∧ ButIn (fun b => v.ownBlock = some b) (U.setCell ⟨w.heap.size, 0, none⟩ (.int .i64 (posR rs (k + 1) : Nat))) w') := HBh.out k U v wsk hk hsl h3 h4
    obtain ⟨p1, p2⟩ := HPos.out k hk
    have HSt : Hid (∀ (w3 : World) (v' : Value) (ws' : List Value), OwnLs w3 (newQ (fun b => W0.heap.size + 1 < b) (U.setCell ⟨w.heap.size, 0, none⟩ (.int .i64 (posR rs (k + 1) : Nat))) w3) v' (s.done.getD (k + 1) []) ws' → ButIn (fun b => v.ownBlock = some b) (U.setCell ⟨w.heap.size, 0, none⟩ (.int .i64 (posR rs (k + 1) : Nat))) w3 →
        RowAt w3 (w.heap.size + 1) 39 [v] ∧ CrL w.heap.size W0 (posR rs) (fun k => s.done.getD k []) (k + 1) (w3.setCell ⟨w.heap.size + 1, 0, none⟩ v') ∧ Stays (fun b => recG (w.heap.size + 2) gb H b ∨ loopB W0 b) U (w3.setCell ⟨w.heap.size + 1, 0, none⟩ v')) :=
      fun w3 v' ws' ho hb => CrL.step (f := fun k => s.done.getD k []) s0 hsl h1 h2 h3 h4 hgb ho hb
    have d0 := h1.cell (i := 0) rfl
    have d1 := h2.cell (i := 0) rfl
    have x0 := h1.frozen
    have l0 := h1.lt
    have l1 := h2.lt
    have q1 : IntKind.i64.wrap (((posR rs k : Nat) : Int) + ((posR rs (k + 1) - posR rs k : Nat) : Int)) = ((posR rs (k + 1) : Nat) : Int) := by rw [IntKind.wrap_i64]; omega
    obtain ⟨va, vc, rfl⟩ := owns_shape h3.row
    clear h1 h2 h3 h4 hk hseq HBh HPos R0 R1 R2 hd0
    obtain ⟨m, hm⟩ : ∃ m, Hid (m = posR rs (k + 1) - posR rs k) := ⟨_, rfl⟩
    rw [← hm.out] at q1 HC ⊢
    generalize hpp : posR rs k = pk at *
    generalize hpq : posR rs (k + 1) = pq at *
    generalize (s.done.getD k []).length = nk at *
    clear s0
    gi_wp2
    refine ⟨trivial, (CallsIn.inRound (W0.heap.size + 1) (callsIn_wide.2 HC.out)).mono ?_⟩
    rintro e w3 ⟨v', ws', rfl, ho, hb⟩
    obtain ⟨g1, g2, g3⟩ := HSt.out w3 v' ws' ho hb
    have d2 := g1.cell (i := 0) rfl
    have x2 := g1.frozen
    have l2 := g1.lt
    have G2 : Hid _ := g2
    have G3 : Hid _ := g3
    obtain ⟨ya, yc, rfl⟩ := owns_shape ho.row
    clear g1 g2 g3 ho hb d0 d1 x0 l0 l1
    gi_wp2
    exact ⟨G3.out, G2.out⟩
  case done =>
    rintro U ⟨h1, ⟨v, wsN, h2, h3⟩, h4⟩ hD
    have hgU : RowAt U g 60 [cv, .slice a B.length c, .int .i64 s.safe, fv, .int .i64 s.left, .bool s.stopped] := by
      have := HL.out.mem.cells.later B0 gl
      unfold RowAt at this ⊢
      rw [h4.2 g (by omega) (by rintro (e | e) <;> omega)]; exact this
    have HEnd : Hid (∀ W2 : World, RowAt W2 g 60 [cv, .slice a (posR rs N) c, .int .i64 (posR rs N : Nat), v, .int .i64 (-1), .bool false] → Below 0 U W2 → (∀ b, b ≠ g → b ≠ W0.heap.size → W2.heap[b]? = U.heap[b]?) → MovedL logX (.pointer (some ⟨g, 0, none⟩)) F (crashS s keep) w W2) :=
      fun W2 q1 q2 q3 => crash_end HL.out HBR.out rfl s0 B0 hN.out n2 (by omega) h3 h4 q1 q2 q3
    have c0 := h1.cell (i := 0) rfl
    have c1 := h2.cell (i := 0) rfl
    have l0 := h1.lt
    have l1 := h2.lt
    have d1 := hgU.cell (i := 1) rfl
    have d2 := hgU.cell (i := 2) rfl
    have d3 := hgU.cell (i := 3) rfl
    have d4 := hgU.cell (i := 4) rfl
    have d5 := hgU.cell (i := 5) rfl
    have x0 := hgU.frozen
    have gU := hgU.lt
    have m1 : posR rs N ≤ H := n4
    have m2 : posR rs N ≤ c := by omega
    have ng0 : ¬ g = w.heap.size := by omega
    have ng1 : ¬ g = w.heap.size + 1 := by omega
    obtain ⟨va, vc, rfl⟩ := owns_shape h3.row
    generalize posR rs N = pn at *
    have HD : Hid (U.heap[W0.heap.size]? = some (.deferred (some []))) := hD
    have HG : Hid (RowAt U g 60 [cv, .slice a B.length c, .int .i64 s.safe, fv, .int .i64 s.left, .bool s.stopped]) := hgU
    clear hgU h1 h2 h3 h4 hD hseq HBh HPos R0 R1 R2 hd0
    generalize (s.done.getD N []).length = nN at *
    go_wp2
    go_region_held3 (fun u => u.cell? ⟨w.heap.size, 0, none⟩ = some (.int .i64 (pn : Int)) ∧ u.cell? ⟨w.heap.size + 1, 0, none⟩ = some (.slice va nN vc)) (go_keep) (fail)
    all_goals
      go_wp2
      obtain ⟨Wf, hWf⟩ : ∃ Wf, Wf = (((((U.setCell ⟨g, 1, none⟩ (.slice a pn c)).setCell ⟨g, 2, none⟩ (.int .i64 (pn : Int))).setCell ⟨g, 3, none⟩ (.slice va nN vc)).setCell ⟨g, 4, none⟩ (.int .i64 (-1))).setCell ⟨g, 5, none⟩ (.bool false)).drew := ⟨_, rfl⟩
      rw [← hWf]
      have hK : ∀ b, b ≠ g → Wf.heap[b]? = U.heap[b]? := fun b hb => by
        rw [hWf]
        exact (stay_set _ g 5 b _ hb).trans ((stay_set _ g 4 b _ hb).trans ((stay_set _ g 3 b _ hb).trans ((stay_set _ g 2 b _ hb).trans (stay_set _ g 1 b _ hb))))
      have hR : RowAt Wf g 60 [cv, .slice a pn c, .int .i64 (pn : Int), .slice va nN vc, .int .i64 (-1), .bool false] := by
        rw [hWf]
        exact ((((HG.out.set 1 _).set 2 _).set 3 _).set 4 _).set 5 _
      have hBf : Below 0 U Wf := by
        rw [hWf]
        exact ((((((Below.refl 0 U).setCell (Nat.zero_le _) _).setCell (Nat.zero_le _) _).setCell (Nat.zero_le _) _).setCell (Nat.zero_le _) _).setCell (Nat.zero_le _) _).drew
      have r4 : Wf.heap[w.heap.size + 3]? = some (.deferred (some [])) := by
        rw [hK _ (by omega), ← s0]; exact HD.out
      refine ⟨by simp, .inl ⟨_, _, rfl, run_takeDeferred r4, ?_⟩⟩
      refine ⟨_, results_none rfl _ _ _, rfl, HEnd.out _ ?_ ?_ ?_⟩
      · unfold RowAt at hR ⊢
        rw [World.putObj_heap_other (by omega)]; exact hR
      · exact hBf.trans (butIn_put (fun b => b = w.heap.size + 3) _ _ _ rfl).1
      · intro b q1 q2
        rw [World.putObj_heap_other (by omega)]; exact hK b q1
  case stop =>
    rintro c k W _ h _
    exact h.elim
end Ev
end Go.Proofs.YtdldgefahgojaakDoor
