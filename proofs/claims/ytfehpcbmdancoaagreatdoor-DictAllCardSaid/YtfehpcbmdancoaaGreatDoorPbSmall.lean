/- The small callees of the rune laws: Place, ValidRune, RuneLen, HasPrefix, Bytes. -/
import Derived.Test.YtfehpcbmdancoaaGreatDoorProg
import Derived.WalkKit
import Derived.WalkSpells
import Derived.WalkLawsBesides
import Derived.Lib.Hide
import Derived.IntWalk
import Derived.BigQuiet
import Derived.Deep.QuietTactic
namespace Go.Proofs.YtfehpcbmdancoaaGreatDoor
open Go Go.RowKit
set_option maxHeartbeats 400000 in
theorem validRune_any (r:Int)(w:World):
  Calls Tryz.prog 135 #[.int .i32 r] w fun e w'=>e= .returned (.bool (Utf8.valid r))∧w=w':=by
 by_cases h1:r<55296
 ·by_cases h0:0≤r
  ·have hv:Utf8.valid r=true:=by simp[Utf8.valid];omega
   rw[hv];clear hv
   go_enter Tryz.func135,Tryz.ntmps135
   go_wp2
   all_goals go_ret
   all_goals exact⟨rfl,rfl⟩
  ·have hv:Utf8.valid r=false:=by simp[Utf8.valid];omega
   rw[hv];clear hv
   go_enter Tryz.func135,Tryz.ntmps135
   go_wp2
   all_goals go_ret
   all_goals exact⟨rfl,rfl⟩
 ·by_cases h2:57343<r
  ·by_cases h3:r≤1114111
   ·have hv:Utf8.valid r=true:=by simp[Utf8.valid];omega
    rw[hv];clear hv
    go_enter Tryz.func135,Tryz.ntmps135
    go_wp2
    all_goals go_ret
    all_goals exact⟨rfl,rfl⟩
   ·have hv:Utf8.valid r=false:=by simp[Utf8.valid];omega
    rw[hv];clear hv
    go_enter Tryz.func135,Tryz.ntmps135
    go_wp2
    all_goals go_ret
    all_goals exact⟨rfl,rfl⟩
  ·have hv:Utf8.valid r=false:=by simp[Utf8.valid];omega
   rw[hv];clear hv
   go_enter Tryz.func135,Tryz.ntmps135
   go_wp2
   all_goals go_ret
   all_goals exact⟨rfl,rfl⟩
def bytesOf (c:Int):ByteArray:=if Utf8.valid c then Utf8.encode c else ⟨#[]⟩
set_option maxHeartbeats 400000 in
theorem bytes_any (c:Int)(w:World):
  Calls Tryz.prog 85 #[.int .i64 c] w fun e w'=>e= .returned (.string (bytesOf c))∧w=w':=by
 by_cases h0:c<0
 ·have hv:bytesOf c=⟨#[]⟩:=by simp[bytesOf,Utf8.valid];omega
  rw[hv];clear hv
  go_enter Tryz.func85,Tryz.ntmps85
  go_wp2_with (fail)
  go_ret
  exact⟨rfl,rfl⟩
 ·by_cases h1:c>1114111
  ·have hv:bytesOf c=⟨#[]⟩:=by simp[bytesOf,Utf8.valid];omega
   rw[hv];clear hv
   go_enter Tryz.func85,Tryz.ntmps85
   go_wp2_with (fail)
   go_ret
   exact⟨rfl,rfl⟩
  ·have hw:IntKind.i32.wrap c=c:=Go.IntWalk.i32_in c (by omega)
   cases hv:Utf8.valid c
   ·have hb:bytesOf c=⟨#[]⟩:=by simp[bytesOf,hv]
    rw[hb]
    go_enter Tryz.func85,Tryz.ntmps85
    go_wp2_with (go_at_call 135;refine(validRune_any _ _).mono ?_;rintro e w' ⟨rfl,rfl⟩)
    go_ret
    exact⟨rfl,rfl⟩
   ·have hb:bytesOf c=Utf8.encode c:=by simp[bytesOf,hv]
    rw[hb]
    go_enter Tryz.func85,Tryz.ntmps85
    go_wp2_with (go_at_call 135;refine(validRune_any _ _).mono ?_;rintro e w' ⟨rfl,rfl⟩)
    go_ret
    exact⟨rfl,rfl⟩
end Go.Proofs.YtfehpcbmdancoaaGreatDoor
