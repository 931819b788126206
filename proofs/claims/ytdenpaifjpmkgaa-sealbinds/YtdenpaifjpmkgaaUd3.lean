/- SealBinds: the early ends of long lists; the loops over functions. -/
import Derived.Test.YtdenpaifjpmkgaaUc
namespace Go.Proofs.Ytdenpaifjpmkgaa
open Go.Ev
set_option maxRecDepth 100000
theorem bGot_l : (bGot false 2 0 false true true false && bGot false 2 0 false true false false && (bGot false 2 0 false false true false && bGot false 2 0 false false false false)) = true := by kernel_rfl
theorem bGot_m : (bGot false 2 0 true false true true && bGot false 2 0 true false false true) = true := by kernel_rfl
theorem bGot_n : ([2, 3].all fun a => bGot false a 1 true false true false && bGot false a 1 true false false false) = true := by kernel_rfl
theorem b8_body : Try.f8.body = some (tBody 8) := by kernel_rfl
theorem f8_at : Try.prog.funcs[8]? = some Try.f8 := by kernel_rfl
theorem f8_tmps : Try.f8.ntmps = 164 := by kernel_rfl
theorem b8_parts : b8 = .seq (.seq (tHd (tHd b8)) (.block 0 (.loop (tLoop (tTl (tHd b8)))))) (tTl b8) := by kernel_rfl

end Go.Proofs.Ytdenpaifjpmkgaa
