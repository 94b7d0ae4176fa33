/- errors.As at an error of a line (a struct that embeds an api.Errno), and package run's told: an error of the line is answered 'bad', any other by its name. -/
import Derived.Test.YtpnmmmlckdkcdakGreatDoorToldB
import Derived.Test.YtpnmmmlckdkcdakGreatDoorRlNum
import Derived.Stop.Asserts
namespace Go.Proofs.YtpnmmmlckdkcdakGreatDoor
namespace Ev
open Go.RowKit Go.Extern.Stop Go.Stop Go.Extern Fr
set_option linter.unusedSimpArgs false
set_option linter.unusedVariables false

theorem lvalueOfT (t : Addr) (w : World) : (ReflectliteValue.unpack (.iface 171 (.pointer (some t)))).run Tryz.prog w
    = .ok (.agg #[.pointer (some ⟨7, 171, none⟩), .pointer (some ⟨w.heap.size, 0, none⟩), .int .u64 150]) (w.alloc (.cells #[.pointer (some t)] 171)) := by kernel_rfl
theorem ltypeT (a : Addr) (w : World) : (ReflectliteValue.methodAny (ReflectliteValue.valueError "reflectlite.Value.Type" 0) (fun t _ _ _ => ReflectliteType.toType t) #[.agg #[.pointer (some ⟨7, 171, none⟩), .pointer (some a), .int .u64 150]]).run Tryz.prog w
    = .ok (.iface 178 (.agg #[.pointer (some ⟨7, 171, none⟩)])) w := by kernel_rfl
theorem lkindT (w : World) : ((ReflectliteType.abiMethod fun t => Functor.map (fun a : Nat => Value.int IntKind.u8 (a : Int)) (Rtype.kind t)) #[.pointer (some ⟨7, 171, none⟩)]).run Tryz.prog w = .ok (.int .u8 22) w := by kernel_rfl
theorem lkindE (w : World) : ((ReflectliteType.abiMethod fun t => Functor.map (fun a : Nat => Value.int IntKind.u8 (a : Int)) (Rtype.kind t)) #[.pointer (some ⟨7, 170, none⟩)]).run Tryz.prog w = .ok (.int .u8 25) w := by kernel_rfl
theorem lpartsT (a : Addr) (w : World) : (ReflectliteValue.parts (.agg #[.pointer (some ⟨7, 171, none⟩), .pointer (some a), .int .u64 150])).run Tryz.prog w = .ok (some (171, a, 150)) w := by kernel_rfl
theorem lisNilT (a p : Addr) (W : World) (ha : W.cell? a = some (.pointer (some p))) :
    (ReflectliteValue.method (ReflectliteValue.valueError "reflectlite.Value.IsNil" 0) ReflectliteValue.isNil #[.agg #[.pointer (some ⟨7, 171, none⟩), .pointer (some a), .int .u64 150]]).run Tryz.prog W = .ok (.bool false) W := by
  obtain ⟨g, h1, h2⟩ := method_shape _ _
  rw [h1]
  simp only [Sem.run_bind, lpartsT, Result.andThen, h2]
  simp [ReflectliteValue.isNil, loadVar, isAgg, underlying, Tryz.underlying171, ha, Result.andThen]
theorem lelemT (w : World) : (ReflectliteType.method ReflectliteType.elem #[.agg #[.pointer (some ⟨7, 171, none⟩)]]).run Tryz.prog w = .ok (.iface 178 (.agg #[.pointer (some ⟨7, 170, none⟩)])) w := by kernel_rfl
theorem limplementsE (w : World) : (ReflectliteType.relation "Implements" ReflectliteType.implements_ #[.agg #[.pointer (some ⟨7, 170, none⟩)], .iface 178 (.agg #[.pointer (some ⟨7, 28, none⟩)])]).run Tryz.prog w = .ok (.bool true) w := by kernel_rfl
theorem ltypeOfE (v : Value) (w : World) : (ReflectliteType.typeOf #[.iface 170 v]).run Tryz.prog w = .ok (.iface 178 (.agg #[.pointer (some ⟨7, 170, none⟩)])) w := by kernel_rfl
theorem lassignableE (w : World) : (ReflectliteType.relation "AssignableTo" ReflectliteType.assignableTo #[.agg #[.pointer (some ⟨7, 170, none⟩)], .iface 178 (.agg #[.pointer (some ⟨7, 170, none⟩)])]).run Tryz.prog w = .ok (.bool true) w := by kernel_rfl
/-- an api.Errno is no error of a line -/
theorem lassignableN (w : World) : (ReflectliteType.relation "AssignableTo" ReflectliteType.assignableTo #[.agg #[.pointer (some ⟨7, 65, none⟩)], .iface 178 (.agg #[.pointer (some ⟨7, 170, none⟩)])]).run Tryz.prog w = .ok (.bool false) w := by kernel_rfl
theorem lvalueOfE (k : Int) (w : World) : (ReflectliteValue.unpack (.iface 170 (.agg #[.int .i64 k]))).run Tryz.prog w
    = .ok (.agg #[.pointer (some ⟨7, 170, none⟩), .pointer (some ⟨w.heap.size, 0, none⟩), .int .u64 153]) (w.alloc (.cells #[.int .i64 k] 170)) := by kernel_rfl
theorem lelemOfT (w : World) : (Rtype.elem? 171).run Tryz.prog w = .ok (some 170) w := by kernel_rfl
theorem lmkE (p : Addr) (w : World) : (ReflectliteValue.mk 170 p ReflectliteValue.flagAddr).run Tryz.prog w = .ok (.agg #[.pointer (some ⟨7, 170, none⟩), .pointer (some p), .int .u64 409]) w := by kernel_rfl
theorem lelemVT (a p : Addr) (W : World) (ha : W.cell? a = some (.pointer (some p))) :
    (ReflectliteValue.method (ReflectliteValue.valueError "reflectlite.Value.Elem" 0) ReflectliteValue.elem #[.agg #[.pointer (some ⟨7, 171, none⟩), .pointer (some a), .int .u64 150]]).run Tryz.prog W
      = .ok (.agg #[.pointer (some ⟨7, 170, none⟩), .pointer (some p), .int .u64 409]) W := by
  obtain ⟨g, h1, h2⟩ := method_shape _ _
  rw [h1]
  simp only [Sem.run_bind, lpartsT, Result.andThen, h2]
  simp [ReflectliteValue.elem, loadVar, isAgg, underlying, Tryz.underlying171, ha, Result.andThen, lelemOfT, lmkE]
theorem lpartsEa (a : Addr) (w : World) : (ReflectliteValue.parts (.agg #[.pointer (some ⟨7, 170, none⟩), .pointer (some a), .int .u64 409])).run Tryz.prog w = .ok (some (170, a, 409)) w := by kernel_rfl
theorem lpartsE (a : Addr) (w : World) : (ReflectliteValue.parts (.agg #[.pointer (some ⟨7, 170, none⟩), .pointer (some a), .int .u64 153])).run Tryz.prog w = .ok (some (170, a, 153)) w := by kernel_rfl
theorem ldirectE (w : World) : (Rtype.directlyAssignable 170 170).run Tryz.prog w = .ok true w := by kernel_rfl
theorem lset_shape : ∃ (g : Option (TypeId × Addr × Nat) → Option (TypeId × Addr × Nat) → Sem Value) (h : Addr → Value → Bool → Sem Value),
    (∀ v x, ReflectliteValue.set #[v, x] = (ReflectliteValue.parts v >>= fun p => ReflectliteValue.parts x >>= fun q => g p q)) ∧
    (∀ a b, g (some (170, a, 409)) (some (170, b, 153)) = (loadVar 170 b >>= fun val => Rtype.directlyAssignable 170 170 >>= fun d => h a val d)) ∧
    ∀ a val, h a val true = (storeVar 170 a val >>= fun _ => pure (.tuple #[])) :=
  ⟨_, _, fun _ _ => rfl, fun _ _ => rfl, fun _ _ => rfl⟩
end Ev
end Go.Proofs.YtpnmmmlckdkcdakGreatDoor
