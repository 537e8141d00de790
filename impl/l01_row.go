package impl

import "strconv"

const OK = 0
const ErrForm = 1
const ErrMany = 2
const ErrRange = 3
const ErrNone = 4
const ErrText = 5
const ErrTaken = 6
const ErrLock = 7
const ErrState = 8
const ErrFull = 9
const ErrType = 10

const (
	FlagRow = iota
	FlagStub
	FlagMoved
)

const (
	maxTable  = 3
	maxKey    = 99
	maxVal    = 999
	maxText   = 8
	maxDigits = 4
	rowHead   = 6
	stubBytes = 3
)

type Row struct {
	Table int64
	Key   int64
	Val   int64
	Text  string
}
type IntResult struct {
	Code  int64
	Value int64
}
type BytesResult struct {
	Code  int64
	Bytes []byte
}
type TextResult struct {
	Code int64
	Text string
}
type RowResult struct {
	Code int64
	Row  Row
}
type CellResult struct {
	Code int64
	Flag int64
	Page int64
	Slot int64
	Row  Row
}

func isWithin(n int64, least int64, greatest int64) bool {
	return least <= n && n <= greatest
}

func isLetter(b byte) bool {
	return 'a' <= b && b <= 'z'
}

func isDigit(b byte) bool {
	return '0' <= b && b <= '9'
}

func isText(text string) bool {
	if len(text) > maxText {
		return false
	}
	for i := 0; i < len(text); i++ {
		if !isLetter(text[i]) {
			return false
		}
	}
	return true
}

func RowFault(r Row) int64 {
	if !isWithin(r.Table, 0, maxTable) || !isWithin(r.Key, 1, maxKey) || !isWithin(r.Val, 0, maxVal) {
		return ErrRange
	}
	if !isText(r.Text) {
		return ErrText
	}
	return OK
}

func IsBefore(a Row, b Row) bool {
	return a.Table < b.Table || a.Table == b.Table && a.Key < b.Key
}

func PackRow(flag int64, r Row) BytesResult {
	switch flag {
	case FlagRow:
		fallthrough
	case FlagMoved:
		if code := RowFault(r); code != OK {
			return BytesResult{Code: code}
		}
		return BytesResult{Bytes: rowCell(flag, r)}
	}
	return BytesResult{Code: ErrForm}
}

func rowCell(flag int64, r Row) []byte {
	cell := []byte{byte(flag), byte(r.Table), byte(r.Key), byte(r.Val >> 8), byte(r.Val & 255), byte(len(r.Text))}
	return append(cell, r.Text...)
}

func PackStub(page int64, slot int64) BytesResult {
	if !isWithin(page, 0, MaxPages-1) || !isWithin(slot, 0, MaxSlots-1) {
		return BytesResult{Code: ErrRange}
	}
	return BytesResult{Bytes: []byte{FlagStub, byte(page), byte(slot)}}
}

func UnpackCell(data []byte) CellResult {
	if len(data) == 0 {
		return CellResult{Code: ErrText}
	}
	switch data[0] {
	case FlagStub:
		return unpackStub(data)
	case FlagRow:
		fallthrough
	case FlagMoved:
		return unpackRow(data)
	}
	return CellResult{Code: ErrText}
}

func unpackStub(data []byte) CellResult {
	if len(data) != stubBytes || data[1] >= MaxPages || data[2] >= MaxSlots {
		return CellResult{Code: ErrText}
	}
	return CellResult{Flag: FlagStub, Page: int64(data[1]), Slot: int64(data[2])}
}

func unpackRow(data []byte) CellResult {
	if len(data) < rowHead || len(data) != rowHead+int(data[rowHead-1]) {
		return CellResult{Code: ErrText}
	}
	r := Row{
		Table: int64(data[1]),
		Key:   int64(data[2]),
		Val:   int64(data[3])<<8 | int64(data[4]),
		Text:  string(data[rowHead:]),
	}
	// A cell has one code for all that is wrong in it, whatever the fault of the row is.
	if RowFault(r) != OK {
		return CellResult{Code: ErrText}
	}
	return CellResult{Flag: int64(data[0]), Row: r}
}

func numberText(n int64) string {
	return strconv.FormatInt(n, 10)
}

func RowText(r Row) TextResult {
	if code := RowFault(r); code != OK {
		return TextResult{Code: code}
	}
	text := numberText(r.Table) + " " + numberText(r.Key) + " " + numberText(r.Val)
	if r.Text != "" {
		text += " " + r.Text
	}
	return TextResult{Text: text}
}

// readNumber stops at maxDigits, so that no row of digits overflows: a digit
// more is left over, and nobody takes it for what stands behind a number.
func readNumber(text string, at int) (value int64, behind int, ok bool) {
	behind = at
	for behind < len(text) && behind-at < maxDigits && isDigit(text[behind]) {
		value = value*10 + int64(text[behind]-'0')
		behind++
	}
	if behind == at || behind-at > 1 && text[at] == '0' {
		return 0, at, false
	}
	return value, behind, true
}

func scanRow(text string) (Row, bool) {
	var numbers [3]int64
	// Letters are gathered anew: a piece of text would share its memory.
	var letters []byte
	at, count, ok := 0, 0, false

number:
	numbers[count], at, ok = readNumber(text, at)
	if !ok {
		goto wrong
	}
	count++
	if at == len(text) {
		goto end
	}
	if text[at] != ' ' {
		goto wrong
	}
	at++
	if count < len(numbers) {
		goto number
	}

letter:
	if at == len(text) || !isLetter(text[at]) {
		goto wrong
	}
	letters = append(letters, text[at])
	at++
	if at < len(text) {
		goto letter
	}

end:
	if count == len(numbers) {
		return Row{Table: numbers[0], Key: numbers[1], Val: numbers[2], Text: string(letters)}, true
	}

wrong:
	return Row{}, false
}

func ParseRow(text string) RowResult {
	r, ok := scanRow(text)
	if !ok || RowFault(r) != OK {
		return RowResult{Code: ErrText}
	}
	return RowResult{Row: r}
}
