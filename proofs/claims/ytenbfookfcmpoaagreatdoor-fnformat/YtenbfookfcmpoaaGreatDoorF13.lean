import Derived.Test.YtenbfookfcmpoaaGreatDoorF04
namespace Go.Proofs.YtenbfookfcmpoaaGreatDoor
open Go.ChangeShapes Go.WideShapes Go.RowKit
theorem num_desc:∃d,Tryz.prog.underlying 246=some d∧d.isRow=true:=⟨_,Tryz.underlying246,rfl⟩
theorem num_size:(Tryz.prog.info? 246).map (·.size)=some 153:=by kernel_rfl
theorem num_zero(w:World):(zeroValue 246).run Tryz.prog w=.ok (.agg (blk 0 (fun _=>0) [.int .i64 0])) w:=
 (zero_of_info (P:=Tryz.prog) (t:=246) (v:=.agg (blk 0 (fun _=>0) [.int .i64 0])) (n:=153) (by kernel_rfl)).1 w
theorem LB.wpLoadNum{w:World}{B c:Nat}{f:Nat→Nat}{z:Value}{t:TypeId}(h:LB w B c f [z] t){op:Oper}{a:Act}{K:Act→World→Prop}{Q:Exit→Act→World→Prop}(x:Operand)(ho:op.op=.load 246 x)
  (hx:a.eval x=.pointer (some ⟨B,0,none⟩)) (hk:K (a.put op.dst (.agg (blk c f [z]))) w):op.wp Tryz.prog a w K Q:=by
 obtain⟨d,hd,hr⟩:=num_desc
 exact wp_load_mid 246 x ho B 0 hx (lgL c f++[z]) d h.rangeAll hd hr (by rw[List.length_append,lgL_length];exact num_size) hk
end Go.Proofs.YtenbfookfcmpoaaGreatDoor
