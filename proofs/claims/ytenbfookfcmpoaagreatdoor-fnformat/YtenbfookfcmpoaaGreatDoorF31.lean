import Derived.Test.YtenbfookfcmpoaaGreatDoorF28
namespace Go.Proofs.YtenbfookfcmpoaaGreatDoor
open Go.ChangeShapes Go.WideShapes Go.RowKit
def Box2(w:World)(H:Nat)(m e:Int)(W:World):Prop:=Below w.heap.size w W∧W.cell? ⟨H,0,none⟩=some (.int .i64 m)∧W.cell? ⟨H,1,none⟩=some (.int .i64 e)
theorem Box2.drew{w W:World}{H:Nat}{m e:Int}(h:Box2 w H m e W):Box2 w H m e W.drew:=⟨h.1.drew,h.2.1,h.2.2⟩
theorem hex_size16(n:Int):(intText n 16).size≤70:=by
 unfold intText
 rw[if_pos (by omega)]
 have h1:∀k,(⟨(textOf 16 k).toArray⟩:ByteArray).size≤64:=fun k=>by
  rw[←data_len]
  exact textOf_length 16 k
 split
 ·rw[append_size]
  have:=h1 (unsig (-n))
  have e:(⟨#[45]⟩:ByteArray).size=1:=rfl
  rw[show(16:Int).toNat=16 from rfl]
  omega
 ·have:=h1 (unsig n)
  rw[show(16:Int).toNat=16 from rfl]
  omega
set_option maxHeartbeats 4000000 in
set_option maxRecDepth 100000 in
theorem hexWrite_any(m e:Int)(w:World)(ht:Tab w)(hw:1<w.heap.size) :
  Calls Tryz.prog 229 #[.agg #[.int .i64 m,.int .i64 e]] w fun r w'=>r=.returned (.string (⟨#[48,120]⟩++intText m 16++⟨#[112]⟩++intText e 10))∧Below w.heap.size w w':=by
 have HWI:Hid (∀n b W,Box2 w w.heap.size m e W→Calls Tryz.prog 164 #[.int .i64 n,.int .i64 b] W fun r w'=>r=.returned (.string (intText n b))∧Box2 w w.heap.size m e w'):=fun n b W hb=>by
  refine(implInt_any n b W (fun i hi=>by rw[hb.1.cell (p:=⟨1,i,none⟩) hw];exact ht i hi) (Nat.lt_of_lt_of_le hw hb.1.size)).mono ?_
  rintro r W' ⟨rfl,b'⟩
  exact⟨rfl,hb.1.trans (b'.mono hb.1.size),(b'.cell (cell_lt hb.2.1)).trans hb.2.1,(b'.cell (cell_lt hb.2.2)).trans hb.2.2⟩
 have h0:Hid (Box2 w w.heap.size m e (w.alloc (.cells #[.int .i64 m,.int .i64 e] 264))):=⟨(Below.refl _ _).alloc (Nat.le_refl _) _,by simp[go_sem],by simp[go_sem]⟩
 have s1:=hex_size16 m
 have s2:=int_size e
 have s3:((⟨#[48,120]⟩:ByteArray)++intText m 16).size=2+(intText m 16).size:=append_size _ _
 have s4:((⟨#[48,120]⟩:ByteArray)++intText m 16++⟨#[112]⟩).size=2+(intText m 16).size+1:=by rw[append_size,append_size];rfl
 clear ht
 generalize hM:intText m 16=M at *
 generalize hE:intText e 10=E at *
 go_enter Tryz.func229,Tryz.ntmps229
 go_wp2
 go_region_with (go_at_call 164;refine(HWI.out _ _ _ (by repeat (first|exact h0.out|assumption|refine Box2.drew ?_))).mono ?_;rintro r W1 ⟨rfl,hg⟩;have hc0:=hg.2.1;have hc1:=hg.2.2)
 all_goals
  have HG:Hid _:=hg.1
  go_wp2
  go_ret
  exact⟨by rw[←hM,←hE];rfl,HG.out⟩
end Go.Proofs.YtenbfookfcmpoaaGreatDoor
