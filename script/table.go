package script

import "canopy/api"

// row is an op's word, and the fields that it has, in their order, a letter each: A, B, C, N, M, S and T are called so; d is Data, l List, n Names, y Yes.
type row struct{ word, fields string }

var table = [api.OpCount]row{
	api.OpElement:    {"element", "ST"},
	api.OpText:       {"text", "d"},
	api.OpComment:    {"comment", "d"},
	api.OpFragment:   {"fragment", ""},
	api.OpClone:      {"clone", "Ay"},
	api.OpAttach:     {"attach", "ANy"},
	api.OpInsert:     {"insert", "ABC"},
	api.OpReplace:    {"replace", "ABC"},
	api.OpRemove:     {"remove", "AB"},
	api.OpNormalize:  {"normalize", "A"},
	api.OpContent:    {"content", "Ad"},
	api.OpAssign:     {"assign", "Al"},
	api.OpData:       {"data", "ANMd"},
	api.OpSplit:      {"split", "AN"},
	api.OpSetAttr:    {"setattr", "AST"},
	api.OpDelAttr:    {"delattr", "AS"},
	api.OpToggle:     {"toggle", "ASN"},
	api.OpRange:      {"range", "ANBM"},
	api.OpExtract:    {"extract", "A"},
	api.OpErase:      {"erase", "A"},
	api.OpIterate:    {"iterate", "AN"},
	api.OpStep:       {"step", "Ay"},
	api.OpObserver:   {"observer", "N"},
	api.OpObserve:    {"observe", "ABN"},
	api.OpTake:       {"take", "A"},
	api.OpDisconnect: {"disconnect", "A"},
	api.OpListen:     {"listen", "ASNMB"},
	api.OpUnlisten:   {"unlisten", "ASNM"},
	api.OpDispatch:   {"dispatch", "ASN"},
	api.OpEffect:     {"effect", "N"},
	api.OpSignal:     {"signal", ""},
	api.OpAbort:      {"abort", "AN"},
	api.OpAny:        {"any", "l"},
	api.OpDefine:     {"define", "STln"},
	api.OpTask:       {"task", "NM"},
	api.OpMicro:      {"micro", "M"},
	api.OpTimer:      {"timer", "NM"},
	api.OpClear:      {"clear", "A"},
	api.OpTick:       {"tick", "N"},
	api.OpTurn:       {"turn", "N"},
	api.OpAsk:        {"ask", "AN"},
	api.OpGet:        {"get", "AS"},
	api.OpFind:       {"find", "AS"},
	api.OpDump:       {"dump", "A"},
}

// rowOf is an op's row, an empty one of what is none.
func rowOf(op api.Op) row {
	if op >= api.OpCount {
		return row{}
	}
	return table[op]
}

func isOp(op api.Op) bool { return rowOf(op).word != "" }
