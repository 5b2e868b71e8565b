/- The statements' own 'pick', by its Go text. -/
import Derived.Test.YtcfhanoekniaaaaGreatDoorRows
import Derived.WalkKit
import Derived.WalkLawsBesides
import Derived.Outline
set_option maxHeartbeats 400000
namespace Go.Proofs.YtcfhanoekniaaaaGreatDoor
open Go.RowKit
theorem rW (a n:Int) (h1:1≤n) (h2:n≤1000000):0≤wrap64 ((IntKind.u64.wrap a).tmod n)∧wrap64 ((IntKind.u64.wrap a).tmod n)<n:=by
 have h0:0≤IntKind.u64.wrap a:=by rw [IntKind.wrap_u64];omega
 have ht:(IntKind.u64.wrap a).tmod n=IntKind.u64.wrap a % n:=Int.tmod_eq_emod_of_nonneg h0
 have l:=Int.emod_nonneg (IntKind.u64.wrap a) (b:=n) (by omega)
 have u:=Int.emod_lt_of_pos (IntKind.u64.wrap a) (b:=n) (by omega)
 rw [ht,show wrap64 (IntKind.u64.wrap a % n)=IntKind.u64.wrap a % n by unfold wrap64;omega]
 exact ⟨l,u⟩
theorem zq (w:World) (a:Int) (n:Nat) (h1:1≤n) (h2:n≤1000000) :
 Calls Tryz.prog 18 #[.int .i64 a,.int .i64 n] w fun e w'=>∃r:Nat,e=.returned (.int .i64 r)∧r<n∧w'=w:=by
 have hb:=rW a n (by omega) (by omega)
 obtain ⟨r,hr⟩:∃r:Nat,wrap64 ((IntKind.u64.wrap a).tmod n)=r:=⟨(wrap64 ((IntKind.u64.wrap a).tmod n)).toNat,by omega⟩
 rw [hr] at hb
 go_enter Tryz.func18,Tryz.ntmps18
 go_wp2
 go_ret
 exact ⟨r,by rw [←hr];rfl,by omega,rfl⟩
end Go.Proofs.YtcfhanoekniaaaaGreatDoor
