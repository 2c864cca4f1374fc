/-
  PROVED: whatever text is handed in, the law DeskCounts returns true (each line that has an answer has one line of it at least), on every schedule, without a race, and its argument reads afterwards as it read before; the five tables of the library that its road can read are tied to the program's text (the card). Conditions: none of our own.
-/
import Derived.Test.YtfphigmeppdocaaGreatDoorCards
import Derived.Test.YtfphigmeppdocaaGreatDoorTie
import Derived.Lay
import Derived.ChangeMaps5
import Derived.ProofKit
import Derived.LaidMore
import Derived.OpenShut
import Derived.Stop.Joined
import Derived.Stop.LaidErr
import Derived.Test.YtfphigmeppdocaaGreatDoorPk6
open Bool renaming true->ν,false->ο
open Go renaming laidMetH->uX
open Go.ChangeMaps renaming open_string->NL,shut_string->NM
open Go.ChangeSpec renaming witness_shaped->VL
open Go.IntKind renaming signed->zl,bits->ikb,wrap->zm
open Go.MakeChecks renaming laidMetH_plain->Ji
open Go.OpenSpec renaming ofChange->D2
open Go.Value renaming string->gV
open Go.World renaming laidAll->Jj
open Go.laidMet renaming tail->Jk
open Option renaming some->θ
open Option.some renaming inj->jP
set_option linter.unusedSimpArgs false
set_option maxHeartbeats 4000000
set_option maxRecDepth 100000
namespace Go.Proofs.YtfphigmeppdocaaGreatDoor.Q
open Lo (ah)
open Go.Proofs.Tryz
open Go.RowKit
open Low (ji eX)
open Lo (eH)
def qR(L:List (List UInt8))(k:Nat):Nat:=((L.take k).filter λl=>mY (ew l)).length
theorem axo L k(h:k<L.length):qR L (k+1)=qR L k+if mY (ew L[k])=ν then 1 else 0:=by
 unfold qR;rw[jZ L k h,List.filter_append,List.length_append];by_cases e:mY (ew L[k])=ν
 .rw[χ e];simp[e]
 .rw[ς e];simp[e]
theorem axp L k:qR L k<=k:=by unfold qR;exact Nat.le_trans (List.length_filter_le _ _) (by rw[List.length_take];omega)
theorem axq s w(hs:s.size<=65536):Calls ah 8 #[.string s] w λe w'=>∃ao cap,e=.returned (.slice ao (ew s.data.toList).length cap)/\kz w' ao (ew s.data.toList)/\Below w.heap.size w w':=by
 refine(aw9 s w (by omega)).mono ?_;rintro e w' ⟨v,ws,hw,rfl,ho,hb⟩;have e1:ws.map gV=kA (ew s.data.toList):=by rw[<-hw,kA,List.map_map];refine List.map_congr_left λx _=>?_;show gV x=.string ⟨x.data.toList.toArray⟩;rw[T8]
 rw[e1]at ho;obtain⟨ao,cap,rfl,_,h⟩:=IA ho;exact⟨ao,cap,rfl,h,hb⟩
theorem axr s w(hs:s.size<=140737488351232)(hM:iN w.heap.size w)(hT:gv w):Calls ah 4 #[.string s] w λe w'=>(e=.returned (.bool ν)/\Below w.heap.size w w')\/(¬eH eX w.tape/\∃ch,e=.panicked ch/\ji w'):=by
 have hR:=λx W (hb:Below w.heap.size w W)=>afD x W ((hM.below hb).mono hb.size) (hT.low.below hb).tab;have h0:=hR ⟨CO.toArray⟩ w (Below.refl _ _);rw[show (⟨CO.toArray⟩:ByteArray).data.toList=CO by simp]at h0;have h0:Calls ah 5 #[.string ⟨CO.toArray⟩] w λe w'=>(e=.returned (.string ⟨VK.toArray⟩)/\Below w.heap.size w w')\/(¬eH eX w.tape/\∃ch,e=.panicked ch/\ji w'):=h0.mono λe w' h=>h.imp (λ⟨out,e1,e2,e3⟩=>⟨by rw[e1,aw7 e2],e3.2⟩) id;have uK:Hid (s.data.toList.length=s.size):=by show _=_;rw[Array.length_toList];rfl
 have bI:=aa hR;clear hM hT hR;simp only[CO,VK]at h0;go_enter akt,ntmps4;go_wp2_with fail;refine h0.mono ?_;rintro e w1 (⟨rfl,aj⟩|⟨hz,ch,rfl,hd⟩)
 case inr=>exact⟨rfl,.inr ⟨hz,ch,rfl,hd⟩⟩
 have Fa:=bI.out s w1 aj;have aS:=aa aj;clear h0 aj;go_wp2_with fail;refine Fa.mono ?_;rintro e w2 (⟨out,rfl,ho,hol,aq⟩|⟨hz,ch,rfl,hd⟩)
 case inr=>exact⟨rfl,.inr ⟨λh=>hz (by rw[aS.out.tape];exact h),ch,rfl,hd⟩⟩
 have aN:=aa (aS.out.trans (aq.mono aS.out.size));have VQ:Hid (65536<s.size\/200<(ek s.data.toList).length->out=[101,114,114,111,114,32,50,10]):=λh=>by unfold oy at ho;rw[uK.out,χ h]at ho;rw[ho];decide+kernel
 have e7:Hid (¬(65536<s.size\/200<(ek s.data.toList).length)->qR (ek s.data.toList) (ek s.data.toList).length<=out.count 10/\(out=[]\/out.getLast?=θ 10)):=λh=>by unfold oy at ho;rw[uK.out,ς h]at ho;obtain⟨T,ho⟩:=ho;have:=anJ ho;unfold qR;rw[List.take_length];exact this
 clear Fa aq ho;by_cases hl:65536<s.size
 .have hl':(65536:Int)<(s.size:Int):=by omega
  have he:=VQ.out (.inl hl);subst he;go_wp2;go_ret;exact .inl ⟨rfl,aN.out⟩
 have hl' :¬(65536:Int)<(s.size:Int):=by omega
 have d1:decide ((65536:Int)<(s.size:Int))=false:=by simpa using hl'
 have vK:=λW=>afO s W (by omega);have VD:Hid (∀x∈ek s.data.toList,x.length<=65536):=λx hx=>by have:=afB hx;rw[uK.out]at this;omega
 have afT:Hid (200<(ek s.data.toList).length->out=[101,114,114,111,114,32,50,10]):=λh=>VQ.out (.inr h);have afU:Hid (¬200<(ek s.data.toList).length->qR (ek s.data.toList) (ek s.data.toList).length<=out.count 10/\(out=[]\/out.getLast?=θ 10)):=λh=>e7.out (by omega);generalize ek s.data.toList=L at*;clear hl VQ e7;go_wp2_with fail;refine(vK _).mono ?_;rintro e w3 ⟨aT,cap,ws,ou,rfl, -,aB⟩;have lN:ws.length=L.length:=by rw[<-ou,List.length_map]
 have bw:=aa (aN.out.trans (aB.mono aN.out.size));clear aB ou;by_cases h2:200<ws.length
 .have jS:(200:Int)<(ws.length:Int):=by omega
  have he:=afT.out (by omega);subst he;clear lN;go_wp2;go_ret;exact .inl ⟨rfl,bw.out⟩
 have jS :¬(200:Int)<(ws.length:Int):=by omega
 have d2:decide ((200:Int)<(ws.length:Int))=false:=by simpa using jS
 have aBt:L.length<=200:=by omega
 have e7:=aa (afU.out (by omega));clear lN h2 afT afU;go_wp2_with fail;refine(vK _).mono ?_;rintro e w4 ⟨Jm,cap',afV,ou,rfl,hcl,hb4⟩;have lN:afV.length=L.length:=by rw[<-ou,List.length_map]
 have cr:=aa (bw.out.trans (hb4.mono bw.out.size));have NG:Hid (∀k (h:k<L.length),w4.cell? ⟨Jm,k,none⟩=θ (.string ⟨L[k].toArray⟩)):=λk h=>by
  rw[hcl k (by omega)];have:afV[k].data.toList=L[k]:=by simp[<-ou]
  rw[<-this,T8]
 have uN:0<L.length->Jm<w4.heap.size:=λh=>by
  have:=NG.out 0 h;rcases Nat.lt_or_ge Jm w4.heap.size with h1|h1
  .exact h1
  .simp[World.cell?,Array.getElem?_eq_none h1]at this
 have axt:=aa uN;rw[lN];clear vK hb4 ou hcl lN uN;go_wp2_with fail;go_loopw [4,26] (λn i wr=>∃(k:Nat),k<=L.length/\i=.int .i64 k/\n=.int .i64 (qR L k:Nat)/\Below w4.heap.size w4 wr) (λ_ i _=>L.length-(intOf i).toNat)
 case atStart=>exact⟨0,Nat.zero_le _,rfl,rfl,Below.refl _ _⟩
 case round=>
  obtain⟨k,hk,rfl,rfl,hb⟩:=hrel;have aD:=aa hb;by_cases hlt:k<L.length
  ·(have i1:(k:Int)<(L.length:Int):=by omega);(have oh:wr.cell? ⟨Jm,k,none⟩=θ (.string ⟨L[k].toArray⟩):=by rw[hb.cell (p:=⟨Jm,k,none⟩) (axt.out (by omega))];exact NG.out k hlt);have hW:=axq ⟨L[k].toArray⟩ wr (by rw[bsize];exact VD.out _ (List.getElem_mem hlt));rw[show (⟨L[k].toArray⟩:ByteArray).data.toList=L[k]by simp]at hW;have aR:=aa (axo L k hlt);have hnl:=axp L k;have NH:Hid (∀x∈ew L[k],x≠[]):=λx hx=>afC hx;generalize ew L[k]=ww at*;generalize qR L k=n at*;clear hb;go_wp2_with fail;refine hW.mono ?_;rintro e aO ⟨ao,c,rfl,Jg,bT⟩;have gb:=aa (aD.out.trans (bT.mono aD.out.size));clear hW bT oh;cases ww with
   |nil=>
    have xS:Hid (qR L (k+1)=n):=aR.out;simp only[List.length_nil];go_wp2;go_roundw
    case rel=>exact⟨k+1,by omega,by go_num,by rw[xS.out],gb.out⟩
    case measure=>simp[intOf];omega
   |cons x r=>
    rcases Jg with h|⟨b,off,rfl,hlb,hc⟩
    .cases h
    have c0:=hc 0 x rfl;rw[Nat.add_zero]at c0;obtain⟨y,t,rfl⟩:∃y t,x=y::t:=by
     cases x with
     |nil=>exact absurd rfl (NH.out [] (by simp))
     |cons y t=>exact⟨y,t,rfl⟩
    have hsz:(⟨(y::t).toArray⟩:ByteArray).size=t.length+1:=bsize _;have hy:(⟨(y::t).toArray⟩:ByteArray)[0]'(by rw[hsz];omega)=y:=rfl;(have i2:(0:Int)<(r.length:Int)+1:=by omega);(have cu:Hid (mY ((y::t)::r)=(y !=35)):=by show _=_;simp[mY];rfl);rw[List.length_cons];generalize (⟨(y::t).toArray⟩:ByteArray)=PF at*;clear hc NH;by_cases e:y=35
    ·(have xS:Hid (qR L (k+1)=n):=by show _=_;rw[aR.out,cu.out,e];rfl);subst e;clear aR cu;go_wp2;go_roundw
     case rel=>exact⟨k+1,by omega,by go_num,by rw[xS.out],gb.out⟩
     case measure=>simp[intOf];omega
    ·(have xS:Hid (qR L (k+1)=n+1):=by show _=_;rw[aR.out,cu.out,χ (by simpa using e)]);have e2:¬(y.toNat:Int)=35:=λq=>e (UInt8.toNat_inj.1 (by have:(35:UInt8).toNat=35:=rfl;omega));(have e3:((y.toNat:Int) !=35)=true:=by simpa using e2);(have iJ:IntKind.i64.wrap ((n:Int)+1)=(n:Int)+1:=by unfold zm;simp[ikb,zl];omega);clear e aR cu;go_wp2;go_roundw
     case rel=>exact⟨k+1,by omega,by go_num,by rw[xS.out];rfl,gb.out⟩
     case measure=>simp[intOf];omega
  ·(have c6:k=L.length:=by omega);subst c6;have hcn:=e7.out.1;have hC:=Tryz.strings_Count_one ⟨out.toArray⟩ 10 wr;rw[show (⟨out.toArray⟩:ByteArray).data.toList=out by simp,show Lib.countByte out 10=out.count 10 from rfl]at hC;have iR:=aa (cr.out.trans (aD.out.mono cr.out.size));generalize qR L L.length=n at*;(have i3:(n:Int)<=((out.count 10:Nat):Int):=by omega);generalize out.count 10=cn at*;(have i4:decide ((n:Int)<=(cn:Int))=true:=by simpa using i3);have axu:=e7.out.2;clear e7 hcn;go_wp2_with fail;refine hC.mono ?_;rintro e aO ⟨rfl,rfl⟩;clear hC;rcases axu with rfl|DX
   .go_wp2;go_ret;exact .inl ⟨rfl,iR.out⟩
   ·(obtain⟨M,rfl⟩:=List.getLast?_eq_some_iff.1 DX;(have vC:wrap64 (M.length:Int)=(M.length:Int):=by rw[List.length_append,List.length_singleton]at hol;unfold wrap64;omega);(have hsz:(⟨(M++[10]).toArray⟩:ByteArray).size=M.length+1:=by rw[bsize];simp);have aBu:∀h,(⟨(M++[10]).toArray⟩:ByteArray)[M.length]'h=10:=λh=>by rw[ByteArray.getElem_eq_getElem_data];simp);(have hem:(⟨(M++[10]).toArray⟩:ByteArray).toList.isEmpty=false:=by rw[oK];simp);generalize (⟨(M++[10]).toArray⟩:ByteArray)=so at*;clear DX;go_wp2;go_ret;exact .inl ⟨rfl,iR.out⟩
end Go.Proofs.YtfphigmeppdocaaGreatDoor.Q
namespace Go.Proofs.YtfphigmeppdocaaGreatDoor
open Go.ChangeShapes Go.WideShapes Go.ChangeAt Go.RowKit Go.Conc Go.ConcR fV Lo
theorem axv:kn.contains 4=true:=by kernel_rfl
theorem axw(os:Os)(args:Array Value):uX Tryz.prog Rows.deskCountsRow.laid ((Jj Tryz.prog os Rows.deskCountsRow.laid).forCall (λ_ _=>0) ⟨#[],args,[]⟩).memory:=by rw[Ji _ _ _ (by kernel_rfl)];exact laidMet_laidAll _ (by kernel_rfl) (by kernel_rfl)
theorem axx{W : World}(h : uX Tryz.prog Rows.deskCountsRow.laid W): Lib.TabIs Tryz.prog W "internal/strconv.uint64pow10" .u64 Lib.pow10Tab := by
 rw[Ji _ _ _ (by kernel_rfl)]at h;have h3:=Jk (Jk h);have e:(Rows.laid_internal_strconv_uint64pow10:DataW Unit)=Lib.tabData .u64 Lib.pow10Tab:=by kernel_rfl
 rw[e]at h3;exact Lib.tabIs_of_head (g:=1) (t:=185) (e:=156) (n:=20) (by kernel_rfl) (by kernel_rfl) Tryz.underlying185 Tryz.underlying156 (by kernel_rfl) (by kernel_rfl) h3
theorem axy(os:Os)(started:os.Started)(H:Type)(enc:TypeId×Value→H):ReturnsInLeavingWide {} Tryz.checked os 4 .any (λw args=>(Rows.deskCountsSpec.pre enc Tryz.prog Tryz.f4 [] ο w args∧uX Tryz.prog Rows.deskCountsRow.laid w)∧sizedMet enc Tryz.prog Tryz.f4 (D2 Rows.deskCountsSpec) ο w args)
   (Rows.deskCountsSpec.post enc Tryz.prog Tryz.f4 ο ν ο ο):=by
 refine ZL (C:=Tryz.checked) (X:=λw _=>uX Tryz.prog Rows.deskCountsRow.laid w) (λ_ _ _ hh h=>h.of_heap hh) ZK started Tryz.func4
  (VL (enc:=enc) (C:=Tryz.checked) (os:=os) (X:=λw _=>uX Tryz.prog Rows.deskCountsRow.laid w) ο (Jj Tryz.prog os Rows.deskCountsRow.laid) #[.string ⟨#[]⟩] 8 (World.laidAll_os _ _ _) (World.shaped_of_ZipB (by kernel_rfl) (by kernel_rfl)) (by kernel_rfl) (by kernel_rfl) (by kernel_rfl) (axw os _)) ?_
 intro W base args ds gs before Jl hW hL CB VN;have hval:∀(j:Nat) t v,Tryz.f4.params[j]?=θ t→args[j]?=θ v→Value.okWide Tryz.prog W .any base t v:=Jl;have VO:=hW;obtain⟨p,q,EI,hV,rfl,hfz,hnd⟩:=hW;have hA:DataW.TrodAll enc Tryz.prog W 0 (λ_=>ν) ν Tryz.f4.params.toList args.toList ds p:=EI;have hsz:(DataW.weightsEach Tryz.prog (Tryz.f4.params.toList++Rows.deskCountsSpec.plain.varTypes Tryz.prog) (ds++gs)).all (·≤reachBytes)=true:=VN;rw[Tryz.params4]at hA hval hsz;obtain⟨v0,axk,d0,axl,p0,q0,hargs,rfl,rfl,h0,r0⟩:=trodAll_cons hA;obtain⟨rfl,rfl,rfl⟩:=trodAll_nil r0;obtain rfl:args=#[v0]:=by cases args;simp_all
 obtain⟨rfl,rfl⟩:=trodVars_none hV;obtain⟨t0,rfl,rfl,rfl,VP⟩:=NL Tryz.underlying9 (hval 0 9 v0 rfl rfl) h0;clear EI Jl;refine Y0 (W:=W) axv (by decide) (λτ d=>(Q.axr t0 (tp (kI W) τ d) (RE (j:=0) hsz rfl rfl) (ZM CB τ d) (ZN (axx hL) τ d)).mono λe w' h=>h.imp (λh=>⟨h.1,?_⟩) λh=>h) (λW' aQ=>?_)
 .have hb:=h.2;rwa[show (tp (kI W) τ d).heap.size=W.heap.size from K8 W]at hb
 exact⟨_,_,_,[],_,[],VO,trodAll_mk1 (shut_bool Tryz.underlying4 _),(trodAll_cons_mk (NM Tryz.underlying9 VP) trodAll_mk0),rfl,aQ.frame _,λh=>by cases h⟩
theorem aaU:Rows.DeskCountsSaid:=
 OpenClaim.holds_of_wide_leaving 4 Tryz.f4 rfl rfl rfl rfl rfl rfl rfl ⟨rfl,rfl,rfl,rfl,rfl⟩ rfl rfl rfl rfl rfl (by kernel_rfl) Tryz.func4 (by kernel_rfl)
  (AF (by kernel_rfl)) (by unfold Func.isWrapper;first|(rw[χ (by decide+kernel)];kernel_rfl)|(rw[ς (by decide+kernel)];exact⟨rfl,rfl⟩))
  (λos started H enc _=>axy os started H enc)
theorem deskCounts_holds:Rows.DeskCountsCardSaid:=
 zV [.data,.data,.data,.data,.pinned] ν Rows.deskCountsCard.stood.harness ο
  aaU (by kernel_rfl) deskCounts_row_tie rfl ⟨rfl,rfl⟩ (by kernel_rfl) rfl
  (λf fn hf hfn=>by
   obtain rfl:f=4:=jP ((show Tryz.prog.funcNamed Tryz.f4.name=θ 4 by kernel_rfl).symm.trans hf) |>.symm;obtain rfl:fn=Tryz.f4:=(jP (Tryz.func4.symm.trans hfn)).symm;exact⟨by kernel_rfl,λj t ht=>by
    rw[Tryz.params4]at ht;(have hm:t∈[9]:=by simpa using Array.mem_of_getElem? ht);(have hall:([9].all λu=> !Tryz.prog.wantsStandIn u)=true:=by kernel_rfl);exact(show Tryz.prog.wantsStandIn t=ο by simpa using List.all_eq_true.1 hall t hm)⟩)
  (by kernel_rfl)
end Go.Proofs.YtfphigmeppdocaaGreatDoor
