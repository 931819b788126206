/- Nothing is known beforehand. -/
import Derived.Test.YtllecfhfhcmpaaaEvU
namespace Go.Ev
@[reducible] def noKnow : Know:={ cmp:=fun _ _ _=>none,cell:=fun _ _ _=>none,put:=fun _ _ _ _=>none,app:=fun _ _ _=>none,rep:=fun _ _=>none,cpy:=fun _ _ _ _ _=>none }
theorem noKnow_ok [Rho] : @KnowOk _ noKnow:=by
 letI:=noKnow
 constructor <;> (intros; contradiction)
instance (priority:=low) instNoKnow : Know:=noKnow
instance (priority:=low) instNoKnowOk [Rho] : @KnowOk _ instNoKnow:=noKnow_ok
end Go.Ev
