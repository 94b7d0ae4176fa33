/- Package log's write: a record whole, or half of it. -/
import Derived.Test.YtpnmmmlckdkcdakGreatDoorLgLS
import Derived.Test.YtpnmmmlckdkcdakGreatDoorLgLC
import Derived.Deep.RegionLaw
namespace Go.Proofs.YtpnmmmlckdkcdakGreatDoor
namespace Ev
open Go.RowKit Fr Ns Fl
set_option linter.unusedSimpArgs false
set_option linter.unusedVariables false

/-- an append to a row of the thing's own, as a step of a region that draws its order; and where the new row lies -/
theorem step_append_at {P : Program} {ops : Array Oper} {o : Oper} {a : Act} {w : World} {K : Act → World → Prop} {Q : Exit → Act → World → Prop} {E : Prop} (hgd : o.guard = none) (s x : Operand) (t : TypeId)
    (ho : o.op = .call { callee := .builtin .append, args := #[s, x], argTypes := #[t, t] })
    (base : Nat) (e : TypeId) (i : TypeInfo) (z : Value) (size bytes : Nat) (ht : P.underlying t = some (.slice e)) (hi : P.info? e = some i) (hz : i.zero = some z)
    (hsize : i.size = size) (hby : i.bytes = bytes) (hzs : z.cells.size = size) (hsz : 0 < size)
    (v : Value) (n : Nat) (xs : List Value) (hs : a.eval s = v) (hown : w.ownsRow base e size v n xs)
    (ad : Addr) (m c : Nat) (news : List Value) (hx : a.eval x = .slice (some ad) m c) (hl : news.length = m * size) (hnews : ∀ j u, news[j]? = some u → w.cell? (ad.add j) = some u) (h1 : ∀ u ∈ news, u.oneCell' = true)
    (h63 : n + m ≤ maxLen) (hbytes : (n + m) * bytes ≤ 140737488355328) (hbase : base ≤ w.heap.size)
    (h : ∀ a' c' w', w'.ownsRow base e size (.slice a' (n + m) c') (n + m) (xs ++ news) → w.grownBy w' v.ownBlock → (Value.ownBlock (.slice a' (n + m) c') = v.ownBlock ∨ Value.ownBlock (.slice a' (n + m) c') = some w.heap.size) → K (a.put o.dst (.slice a' (n + m) c')) w') :
    if Region.wanted o (yielded ops a.tmps) = true then Oper.wp P o a w K Q else E := by
  have hw : Region.wanted o (yielded ops a.tmps) = true := by simp [Region.wanted, hgd]
  rw [if_pos hw]
  obtain ⟨v', w', hrun, h2, h3, _, h4⟩ := run_append_own_at (P := P) w base t o.type e i z size bytes ht hi hz hsize hby hzs hsz v n xs hown ad m c news hl hnews h1 h63 hbytes hbase
  obtain ⟨a', c', rfl⟩ := owns_shape h2
  unfold Oper.wp
  simp [execOp, ho, resolve, invoke, builtin, hs, hx, hrun, Result.andThen]
  exact h a' c' w' h2 h3 h4

theorem butIn_seq {F : Nat → Prop} {w w1 w2 : World} (h : ButIn F w w1) (h2 : Below 0 w1 w2) (hk : ∀ b, b < w.heap.size → ¬ F b → w2.heap[b]? = w1.heap[b]?) : ButIn F w w2 :=
  ⟨h.1.trans h2, fun b hb hF => (hk b hb hF).trans (h.2 b hb hF)⟩
/-- what there is behind an append to the bytes and the store of it -/
theorem lw_bytes {w w1 : World} {g : Nat} {F : Nat → Prop} {cv bv fv : Value} {caps : List Int} {sf : Nat} {lf : Int} {st : Bool} {B C : List Nat} {f : Flows} {ws : List Value} {a' : Option Addr} {c' n : Nat} (h : LgMem w g F cv bv fv caps sf lf st B f ws)
    (ho : w1.ownsRow 0 5 1 (.slice a' n c') n (u8s B ++ u8s C)) (hg : w.grownBy w1 bv.ownBlock) (hat : Value.ownBlock (.slice a' n c') = bv.ownBlock ∨ Value.ownBlock (.slice a' n c') = some w.heap.size) :
    RowAt w1 g 64 [cv, bv, .int .i64 sf, fv, .int .i64 lf, .bool st] ∧
    LgMem (w1.setCell ⟨g, 1, none⟩ (.slice a' n c')) g (Fn F w (w1.setCell ⟨g, 1, none⟩ (.slice a' n c'))) cv (.slice a' n c') fv caps sf lf st (B ++ C) f ws ∧ ButIn F w (w1.setCell ⟨g, 1, none⟩ (.slice a' n c')) := by
  obtain ⟨n1, n2, n3⟩ := h.apart
  have gl := h.cells.lt
  have K : ∀ b, b < w.heap.size → bv.ownBlock ≠ some b → w1.heap[b]? = w.heap[b]? := fun b hb hne => hg.block b hb (fun e => hne e.symm)
  have hz : w.heap.size ≤ w1.heap.size := hg.size
  have hR : RowAt w1 g 64 [cv, bv, .int .i64 sf, fv, .int .i64 lf, .bool st] := by have := h.cells; unfold RowAt at this ⊢; rw [K g gl n1]; exact this
  have hzs : (w1.setCell ⟨g, 1, none⟩ (.slice a' n c')).heap.size = w1.heap.size := by simp
  have hb0 : Below 0 w (w1.setCell ⟨g, 1, none⟩ (.slice a' n c')) := ((Below.refl 0 w).grown hg (Nat.zero_le _) (fun k _ => Nat.zero_le _)).setCell (Nat.zero_le _) _
  have hn : n = (B ++ C).length := by have := ho.1; rw [← u8s_append, u8s_length] at this; omega
  have hog : Value.ownBlock (.slice a' n c') ≠ some g := fun e => by
    rcases hat with hat | hat
    · exact n1 (hat ▸ e)
    · rw [hat] at e; simp at e; omega
  refine ⟨hR, h.newB (hR.set 1 _) (fun b hb hbg hbb => (stay_set _ _ _ _ _ hbg).trans (K b hb hbb)) (by rw [hzs]; exact hz) ?_ (fun b hb => ?_), hb0, fun b hb hF => ?_⟩
  · rw [← u8s_append, hn] at ho
    rw [hn]
    exact own_keep (fun b hb => stay_set _ _ _ _ _ (fun e => hog (by rw [← e, hn]; exact hb))) ho
  · rcases hat with hat | hat
    · exact .inl (hat ▸ hb)
    · rw [hat] at hb; simp at hb; exact .inr (by omega)
  · exact (stay_set w1 g 1 b _ (fun e => hF (by rw [e]; exact h.own))).trans (K b hb (fun e => hF (h.fb b e)))
/-- the flows behind it -/
theorem lw_flows {w w1 : World} {g : Nat} {F : Nat → Prop} {cv bv fv fv' : Value} {caps : List Int} {sf : Nat} {lf : Int} {st : Bool} {B : List Nat} {f f' : Flows} {ws ws' : List Value} (h : LgMem w g F cv bv fv caps sf lf st B f ws)
    (ho : OwnLs w1 (newQ (Qo F g bv) w w1) fv' f' ws') (hb : ButIn (fun b => fv.ownBlock = some b) w w1) (hat : ∀ b, fv'.ownBlock = some b → fv.ownBlock = some b ∨ w.heap.size ≤ b) :
    RowAt w1 g 64 [cv, bv, .int .i64 sf, fv, .int .i64 lf, .bool st] ∧
    LgMem (w1.setCell ⟨g, 3, none⟩ fv') g (Fn F w (w1.setCell ⟨g, 3, none⟩ fv')) cv bv fv' caps sf lf st B f' ws' ∧ ButIn F w (w1.setCell ⟨g, 3, none⟩ fv') := by
  obtain ⟨n1, n2, n3⟩ := h.apart
  have gl := h.cells.lt
  have K : ∀ b, b < w.heap.size → fv.ownBlock ≠ some b → w1.heap[b]? = w.heap[b]? := fun b hb' hne => hb.2 b hb' hne
  have hz : w.heap.size ≤ w1.heap.size := hb.1.size
  have hR : RowAt w1 g 64 [cv, bv, .int .i64 sf, fv, .int .i64 lf, .bool st] := by have := h.cells; unfold RowAt at this ⊢; rw [K g gl n2]; exact this
  have hzs : (w1.setCell ⟨g, 3, none⟩ fv').heap.size = w1.heap.size := by simp
  have hb0 : Below 0 w (w1.setCell ⟨g, 3, none⟩ fv') := hb.1.setCell (Nat.zero_le _) _
  refine ⟨hR, h.newF (hR.set 3 _) (fun b hb' hbg hbf => (stay_set _ _ _ _ _ hbg).trans (K b hb' hbf)) (by rw [hzs]; exact hz) ?_ (fun b hb => hb) ?_ hat, hb0, fun b hb' hF => ?_⟩
  · refine own_keep (fun b hb' => ?_) h.bytes
    have hl := (own_lt h.bytes hb').2.1
    exact (stay_set w1 g 3 b _ (fun e => n1 (by rw [← e]; exact hb'))).trans (K b hl (n3 b hb'))
  · refine ho.keep (fun b hb' hl => stay_set _ _ _ _ _ (fun e => ?_)) (fun b hb' hl => ?_)
    · rcases hb' with hb' | hb'
      · exact hb'.2.1 e
      · omega
    · rcases hb' with hb' | hb'
      · exact .inl hb'
      · exact .inr ⟨hb'.1, by rw [hzs]; exact hb'.2⟩
  · exact (stay_set w1 g 3 b _ (fun e => hF (by rw [e]; exact h.own))).trans (K b hb' (fun e => hF (h.flows.own b e).1))

set_option maxRecDepth 100000 in
set_option maxHeartbeats 2000000 in
theorem lwrite_any {w : World} {g : Nat} {F : Nat → Prop} {cv bv fv : Value} {s : LogS} {B : List Nat} {ws : List Value} (h : LgAt w g F cv bv fv s B ws) (hf : FewL s) (hs : s.stopped = false) (r : List Nat) (gr og cr : Nat)
    (hr : ∀ k, k < r.length → w.cell? ⟨gr, og + k, none⟩ = some (.int .u8 (r.getD k 0 : Nat))) (hcr : r.length ≤ cr) (hcm : cr ≤ 9223372036854775807) (hm : MayR s.flows r) (hgr : ¬ F gr) :
    Calls Tryz.prog 27 #[.pointer (some ⟨g, 0, none⟩), .slice (some ⟨gr, og, none⟩) r.length cr] w fun e w' => e = .returned (errV (if s.left = 0 then 6 else 0)) ∧ MovedL logX (.pointer (some ⟨g, 0, none⟩)) F (putS s r.length (recStep s.flows r)) w w' := by
  obtain ⟨-, ⟨a, c, rfl⟩, ⟨af, cf, rfl⟩⟩ := h.mem.shape
  have h2 := hm.1.1
  have h7 := hm.1.2.2.1
  have hlen := h.len
  have hB : B.length ≤ 1000000 := by have := hf.1.bytes_le; have := hf.2; omega
  have f6 := hf.1.flows_right.1
  obtain ⟨rs, half, hbr, hz⟩ := h.recs
  obtain rfl : half = [] := hz hs
  have hmem := h.mem
  rw [hs] at hmem
  have HSt : Hid (Calls Tryz.prog 29 #[.pointer (some ⟨g, 0, none⟩)] w fun e w' => e = .returned (.bool (decide (s.left = 0))) ∧ RowAt w' g 64 [cv, .slice a B.length c, .int .i64 s.safe, .slice af s.flows.length cf, .int .i64 (nextL s.left), .bool (decide (s.left = 0))] ∧ Only g w w') := lstops_any g cv _ _ _ s.left false w hmem.cells h.far
  obtain ⟨i0, hi, hz0, hz1, hz2⟩ := info_parts infoByte
  have hgl : gr < w.heap.size := World.block_lt_of_cell? _ _ (hr 0 (by omega))
  have hgg : gr ≠ g := fun e => hgr (e ▸ h.mem.own)
  by_cases hl : s.left = 0
  · obtain ⟨m, hmm⟩ : ∃ m, m = r.length / 2 := ⟨_, rfl⟩
    have q1 : (r.length : Int).tdiv 2 = (m : Int) := by rw [Int.tdiv_eq_ediv_of_nonneg (by omega)]; omega
    have m1 : m ≤ cr := by omega
    have q2 : IntKind.i64.wrap (m : Int) = m := by rw [IntKind.wrap_i64]; omega
    have m2 : m ≤ 3 := by omega
    have M : Hid (∀ w1, RowAt w1 g 64 [cv, .slice a B.length c, .int .i64 s.safe, .slice af s.flows.length cf, .int .i64 (nextL s.left), .bool true] → Only g w w1 →
        LgMem w1 g F cv (.slice a B.length c) (.slice af s.flows.length cf) s.caps s.safe s.left true B s.flows ws ∧ w1.ownsRow 0 5 1 (.slice a B.length c) B.length (u8s B) ∧
        (∀ j u, (u8s (r.take m))[j]? = some u → w1.cell? ((⟨gr, og, none⟩ : Addr).add j) = some u)) := fun w1 hr1 ho => by
      have e3 : nextL s.left = s.left := if_neg (by omega)
      rw [e3] at hr1
      have hm1 := hmem.put hr1 ho.2
      refine ⟨hm1, hm1.bytes, fun j u hj => ?_⟩
      have hjl : j < m := by have := (List.getElem?_eq_some_iff.1 hj).1; rw [u8s_length, List.length_take] at this; omega
      rw [u8s_at (by rw [List.length_take]; omega), getD_take _ _ _ _ hjl] at hj
      rw [add_addr, World.cell?_of_block (w := w) (a := ⟨gr, og + j, none⟩) (ho.2 gr hgg), hr j (by omega)]
      exact hj
    have HEnd : Hid (∀ w1 w2 a' c', Only g w w1 → LgMem w1 g F cv (.slice a B.length c) (.slice af s.flows.length cf) s.caps s.safe s.left true B s.flows ws → w2.ownsRow 0 5 1 (.slice a' (B.length + m) c') (B.length + m) (u8s B ++ u8s (r.take m)) → w1.grownBy w2 (Value.ownBlock (.slice a B.length c)) →
        (Value.ownBlock (.slice a' (B.length + m) c') = Value.ownBlock (.slice a B.length c) ∨ Value.ownBlock (.slice a' (B.length + m) c') = some w1.heap.size) →
        RowAt w2 g 64 [cv, .slice a B.length c, .int .i64 s.safe, .slice af s.flows.length cf, .int .i64 s.left, .bool true] ∧ MovedL logX (.pointer (some ⟨g, 0, none⟩)) F (putS s r.length (recStep s.flows r)) w (w2.setCell ⟨g, 1, none⟩ (.slice a' (B.length + m) c'))) := fun w1 w2 a' c' ho1 hm1 ho hg hat => by
      obtain ⟨k1, k2, k3⟩ := lw_bytes hm1 ho hg hat
      refine ⟨k1, ?_⟩
      have hput : putS s r.length (recStep s.flows r) = { s with bytes := s.bytes + r.length / 2, stopped := true } := by unfold putS; rw [if_pos hl]
      have hhalf := hbr.half hm.1 (recStep s.flows r) hl
      rw [hput] at hhalf ⊢
      refine ⟨_, ⟨g, _, _, _, _, _, rfl, ⟨k2, ?_, ⟨rs, r.take (r.length / 2), by rw [hmm]; exact hhalf, fun e => by simp at e⟩, h.far⟩⟩, fun b hb => ?_, butIn_seq ⟨ho1.1, fun b _ hF => ho1.2 b (fun e => hF (e ▸ hmem.own))⟩ k3.1 (fun b hb hF => k3.2 b (by have := ho1.1.size; omega) hF)⟩
      · show s.bytes + r.length / 2 = (B ++ r.take m).length
        rw [List.length_append, List.length_take]; omega
      · rcases hb with hb | hb
        · exact .inl hb
        · exact .inr (by have := ho1.1.size; omega)
    have OU : Hid (∀ u ∈ u8s (r.take m), u.oneCell' = true) := ones_u8 _
    have LU : Hid ((u8s (r.take m)).length = m * 1) := by show _ = _; rw [u8s_length, List.length_take]; omega
    rw [if_pos hl, errV_ne (by decide)]
    rw [decide_eq_true hl] at HSt
    clear h hf hs hr hm hlen hbr hz hmem hgr hl hmm h2 h7
    generalize u8s (r.take m) = us at *
    generalize u8s B = bs at *
    generalize B.length = nb at *
    generalize r.length = nr at *
    generalize s.flows.length = nf at *
    generalize s.safe = sf at *
    generalize s.left = lf at *
    go_enter Tryz.func27, Tryz.ntmps27
    go_wp2_with fail
    refine HSt.out.mono ?_
    rintro e w1 ⟨rfl, hr1, ho1⟩
    obtain ⟨k1, k2, k3⟩ := M.out w1 hr1 ho1
    have d0 := hr1.cell (i := 1) rfl
    have f0 := hr1.frozen
    have gl := hr1.lt
    have HO1 : Hid (Only g w w1) := ho1
    have HO1d : Hid (Only g w w1.drew) := ⟨ho1.1.drew, ho1.2⟩
    have HM1d : Hid (LgMem w1.drew g F cv (.slice a nb c) (.slice af nf cf) s.caps sf lf true B s.flows ws) := k1.keep (fun _ _ => rfl)
    have HM1 : Hid _ := k1
    have K2 : Hid _ := k2
    have K3 : Hid _ := k3
    clear hr1 ho1 k1 k2 k3 M
    go_wp2_with fail
    go_region_law (refine step_append_at rfl (.tmp 11) (.tmp 16) 62 rfl 0 5 i0 (.int .u8 0) 1 1 Tryz.underlying62 hi hz0 hz1 hz2 rfl (by decide) (.slice a nb c) nb bs (by simp [Act.eval, Act.put]) K2.out ⟨gr, og, none⟩ m cr us (by simp [Act.eval, Act.put]) LU.out K3.out OU.out (by unfold maxLen; omega) (by omega) (Nat.zero_le _) ?_; intro a' c' w2 hown hgrow hat; obtain ⟨e1, e2⟩ := HEnd.out w1.drew w2 a' c' HO1d.out HM1d.out hown hgrow hat; have D1 := e1.cell (i := 1) rfl; have F1 := e1.frozen; have G1 := e1.lt; have E2 : Hid _ := e2; clear e1 e2 hown hgrow hat)
    all_goals
      go_wp2
      go_ret
      exact ⟨rfl, E2.out⟩
  · have M : Hid (∀ w1, RowAt w1 g 64 [cv, .slice a B.length c, .int .i64 s.safe, .slice af s.flows.length cf, .int .i64 (nextL s.left), .bool false] → Only g w w1 →
        LgMem w1 g F cv (.slice a B.length c) (.slice af s.flows.length cf) s.caps s.safe (nextL s.left) false B s.flows ws ∧ w1.ownsRow 0 5 1 (.slice a B.length c) B.length (u8s B) ∧
        (∀ j u, (u8s r)[j]? = some u → w1.cell? ((⟨gr, og, none⟩ : Addr).add j) = some u)) := fun w1 hr1 ho => by
      have hm1 := hmem.put hr1 ho.2
      refine ⟨hm1, hm1.bytes, fun j u hj => ?_⟩
      have hjl : j < r.length := by have := (List.getElem?_eq_some_iff.1 hj).1; rwa [u8s_length] at this
      rw [u8s_at hjl] at hj
      rw [add_addr, World.cell?_of_block (w := w) (a := ⟨gr, og + j, none⟩) (ho.2 gr hgg), hr j hjl]
      exact hj
    have HEnd : Hid (∀ w1 w2 a' c', Only g w w1 → LgMem w1 g F cv (.slice a B.length c) (.slice af s.flows.length cf) s.caps s.safe (nextL s.left) false B s.flows ws → w2.ownsRow 0 5 1 (.slice a' (B.length + r.length) c') (B.length + r.length) (u8s B ++ u8s r) → w1.grownBy w2 (Value.ownBlock (.slice a B.length c)) →
        (Value.ownBlock (.slice a' (B.length + r.length) c') = Value.ownBlock (.slice a B.length c) ∨ Value.ownBlock (.slice a' (B.length + r.length) c') = some w1.heap.size) →
        RowAt w2 g 64 [cv, .slice a B.length c, .int .i64 s.safe, .slice af s.flows.length cf, .int .i64 (nextL s.left), .bool false] ∧ LgMem (w2.setCell ⟨g, 1, none⟩ (.slice a' (B.length + r.length) c')) g (Fn F w1 (w2.setCell ⟨g, 1, none⟩ (.slice a' (B.length + r.length) c'))) cv (.slice a' (B.length + r.length) c') (.slice af s.flows.length cf) s.caps s.safe (nextL s.left) false (B ++ r) s.flows ws ∧
        ButIn F w (w2.setCell ⟨g, 1, none⟩ (.slice a' (B.length + r.length) c')) ∧
        Hid (Calls Tryz.prog 31 #[.slice af s.flows.length cf, .slice (some ⟨gr, og, none⟩) r.length cr] (w2.setCell ⟨g, 1, none⟩ (.slice a' (B.length + r.length) c')) fun e w' => ∃ v' ws', e = .returned v' ∧ OwnLs w' (newQ (Qo (Fn F w1 (w2.setCell ⟨g, 1, none⟩ (.slice a' (B.length + r.length) c'))) g (.slice a' (B.length + r.length) c')) (w2.setCell ⟨g, 1, none⟩ (.slice a' (B.length + r.length) c')) w') v' (recStep s.flows r) ws' ∧
          ButIn (fun b => Value.ownBlock (.slice af s.flows.length cf) = some b) (w2.setCell ⟨g, 1, none⟩ (.slice a' (B.length + r.length) c')) w' ∧ (∀ b, v'.ownBlock = some b → Value.ownBlock (.slice af s.flows.length cf) = some b ∨ (w2.setCell ⟨g, 1, none⟩ (.slice a' (B.length + r.length) c')).heap.size ≤ b))) := fun w1 w2 a' c' ho1 hm1 ho hg hat => by
      obtain ⟨k1, k2, k3⟩ := lw_bytes hm1 ho hg hat
      have hbt : ButIn F w (w2.setCell ⟨g, 1, none⟩ (.slice a' (B.length + r.length) c')) := butIn_seq ⟨ho1.1, fun b _ hF => ho1.2 b (fun e => hF (e ▸ hmem.own))⟩ k3.1 (fun b hb hF => k3.2 b (by have := ho1.1.size; omega) hF)
      refine ⟨k1, k2, hbt, lbehind_any _ _ ws r gr og cr _ k2.flows (fun k hk => ?_) hm hcr hcm f6⟩
      rw [World.cell?_of_block (w := w) (a := ⟨gr, og + k, none⟩) (hbt.2 gr hgl hgr)]
      exact hr k hk
    have HFin : Hid (∀ (W1 w3 : World) (bv' v' : Value) (F1 : Nat → Prop) (ws' : List Value), LgMem W1 g F1 cv bv' (.slice af s.flows.length cf) s.caps s.safe (nextL s.left) false (B ++ r) s.flows ws → ButIn F w W1 → (∀ b, F1 b → F b ∨ w.heap.size ≤ b) → OwnLs w3 (newQ (Qo F1 g bv') W1 w3) v' (recStep s.flows r) ws' → ButIn (fun b => Value.ownBlock (.slice af s.flows.length cf) = some b) W1 w3 → (∀ b, v'.ownBlock = some b → Value.ownBlock (.slice af s.flows.length cf) = some b ∨ W1.heap.size ≤ b) →
        RowAt w3 g 64 [cv, bv', .int .i64 s.safe, .slice af s.flows.length cf, .int .i64 (nextL s.left), .bool false] ∧ MovedL logX (.pointer (some ⟨g, 0, none⟩)) F (putS s r.length (recStep s.flows r)) w (w3.setCell ⟨g, 3, none⟩ v')) := fun W1 w3 bv' v' F1 ws' hM hbt hF1 ho hb hat => by
      obtain ⟨k1, k2, k3⟩ := lw_flows hM ho hb hat
      refine ⟨k1, ?_⟩
      have hnew := hbr.put hm hlen hl
      have hput : putS s r.length (recStep s.flows r) = { s with done := s.done ++ [recStep s.flows r], marks := s.marks ++ [s.bytes + r.length], bytes := s.bytes + r.length, left := if 0 < s.left then s.left - 1 else s.left } := by unfold putS; rw [if_neg hl]
      have hfl : (putS s r.length (recStep s.flows r)).flows = recStep s.flows r := by rw [hput]; exact flowsL_snoc _ _
      have hst : (putS s r.length (recStep s.flows r)).stopped = false := by rw [hput]; exact hs
      have hle : (putS s r.length (recStep s.flows r)).left = nextL s.left := by rw [hput]; rfl
      have hzw := hbt.1.size
      refine ⟨Fn F1 W1 (w3.setCell ⟨g, 3, none⟩ v'), ⟨g, cv, bv', v', B ++ r, ws', rfl, ⟨?_, ?_, ⟨_, [], hnew, fun _ => rfl⟩, ?_⟩⟩, fun b hb => ?_, butIn_seq hbt k3.1 (fun b hb hF => k3.2 b (by omega) (fun h => ?_))⟩
      · rw [hfl, hst, hle]
        have e1 : (putS s r.length (recStep s.flows r)).caps = s.caps := by rw [hput]
        have e2 : (putS s r.length (recStep s.flows r)).safe = s.safe := by rw [hput]
        rw [e1, e2]
        exact k2
      · rw [hput]
        show s.bytes + r.length = _
        rw [List.length_append, hlen]
      · rw [hle]
        have := h.far
        unfold nextL
        split <;> omega
      · rcases hb with hb | hb
        · exact hF1 b hb
        · exact .inr (by omega)
      · rcases hF1 b h with h | h
        · exact hF h
        · omega
    have OU : Hid (∀ u ∈ u8s r, u.oneCell' = true) := ones_u8 _
    have LU : Hid ((u8s r).length = r.length * 1) := by show _ = _; rw [u8s_length]; omega
    rw [if_neg hl, errV_0]
    rw [decide_eq_false hl] at HSt
    clear h hf hs hr hm hlen hbr hz hmem hgr hl h2
    generalize u8s r = us at *
    generalize u8s B = bs at *
    generalize B.length = nb at *
    generalize r.length = nr at *
    generalize s.flows.length = nf at *
    generalize s.safe = sf at *
    generalize nextL s.left = lf at *
    go_enter Tryz.func27, Tryz.ntmps27
    go_wp2_with fail
    refine HSt.out.mono ?_
    rintro e w1 ⟨rfl, hr1, ho1⟩
    obtain ⟨k1, k2, k3⟩ := M.out w1 hr1 ho1
    have d0 := hr1.cell (i := 1) rfl
    have f0 := hr1.frozen
    have gl := hr1.lt
    have HO1 : Hid (Only g w w1) := ho1
    have HM1 : Hid _ := k1
    have K2 : Hid _ := k2
    have K3 : Hid _ := k3
    clear hr1 ho1 k1 k2 k3 M
    go_wp2_with (at_builtin; go_must (refine wpList_append_own_at _ rfl (.tmp 25) (.tmp 26) 62 rfl 0 5 i0 (.int .u8 0) 1 1 Tryz.underlying62 hi hz0 hz1 hz2 rfl (by decide) (.slice a nb c) nb bs rfl K2.out ⟨gr, og, none⟩ nr cr us rfl LU.out K3.out OU.out (by unfold maxLen; omega) (by omega) (Nat.zero_le _) ?_))
    intro v1 w2 hown hgrow _ hat
    obtain ⟨a', c', rfl⟩ := owns_shape hown
    obtain ⟨e1, e2, e3, E4⟩ := HEnd.out w1 w2 a' c' HO1.out HM1.out hown hgrow hat
    have D1 := e1.cell (i := 1) rfl
    have F1 := e1.frozen
    have G1 := e1.lt
    have E2 : Hid _ := e2
    have E3 : Hid _ := e3
    have X3 := e2.cells.cell (i := 3) rfl
    have HO1z : Hid (w.heap.size ≤ w1.heap.size) := HO1.out.1.size
    clear e1 e2 e3 hown hgrow hat d0 f0 gl
    go_wp2_with fail
    refine E4.out.mono ?_
    rintro e w3 ⟨v', ws', rfl, ho3, hb3, hat3⟩
    obtain ⟨g1, g2⟩ := HFin.out _ w3 _ v' _ ws' E2.out E3.out (fun b hb => hb.elim .inl (fun h => .inr (by have := HO1z.out; omega))) ho3 hb3 hat3
    have Y3 := g1.cell (i := 3) rfl
    have YF := g1.frozen
    have YL := g1.lt
    have G2 : Hid _ := g2
    obtain ⟨va, vc, rfl⟩ := owns_shape ho3.row
    clear g1 g2 ho3 hb3 hat3 X3 D1 F1 G1
    go_wp2
    go_ret
    exact ⟨rfl, G2.out⟩
end Ev
end Go.Proofs.YtpnmmmlckdkcdakGreatDoor
