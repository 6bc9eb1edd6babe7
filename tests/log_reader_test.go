package tests

import (
	"encoding/binary"
	"hash/crc32"
	"math"
	"slices"
	"strings"
	"testing"

	"loop.example/g00268/impl"
)

// rightLog is LogOK once more.
func rightLog(l impl.Log) bool {
	if l.Room < 0 || l.Room > 60000 || l.Sure < 0 {
		return false
	}
	behind := l.Room - len(l.Data)
	return behind >= 0 && len(l.Data)-l.Sure >= 0
}

// written is a record as a log has it, by the library's sums.
func written(record string) string {
	head := binary.BigEndian.AppendUint32(nil, uint32(len(record)))[1:]
	sum := crc32.Update(crc32.ChecksumIEEE(head), crc32.IEEETable, []byte(record))
	return string(binary.BigEndian.AppendUint32(head, sum)) + record
}

func allWritten(records ...string) string {
	data := ""
	for _, x := range records {
		data += written(x)
	}
	return data
}

// recordAt is the record that a text begins with, and the code of what begins no record.
func recordAt(data string) (string, int) {
	if len(data) < 7 {
		return "", impl.ErrMore
	}
	size := int(binary.BigEndian.Uint32([]byte("\x00" + data[:3])))
	switch {
	case size == 0 || size > 20000:
		return "", impl.ErrSum
	case len(data) < 7+size:
		return "", impl.ErrMore
	case data[:7+size] != written(data[7:7+size]):
		return "", impl.ErrSum
	}
	return data[7 : 7+size], impl.OK
}

// readLog is LogRecords of a right log's Data.
func readLog(data string) ([]string, int, int) {
	var list []string
	behind := data
	for behind != "" {
		record, code := recordAt(behind)
		if code != impl.OK {
			return list, len(data) - len(behind), code
		}
		list = append(list, record)
		behind = strings.TrimPrefix(behind, written(record))
	}
	return list, len(data), impl.OK
}

// appended is LogAppend once more.
func appended(l impl.Log, record string) (impl.Log, int) {
	switch {
	case len(record) > 65536:
		return impl.Log{}, impl.ErrLong
	case !rightLog(l):
		return impl.Log{}, impl.ErrBad
	case record == "" || len(record) > 20000:
		return l, impl.ErrRange
	case len(l.Data+written(record)) > l.Room:
		return l, impl.ErrFull
	}
	return impl.Log{Room: l.Room, Data: l.Data + written(record), Sure: l.Sure}, impl.OK
}

// sureLog is a log of which all is sure.
func sureLog(room int, data string) impl.Log {
	return impl.Log{Room: room, Data: data, Sure: len(data)}
}

func checkLogAnswer(t *testing.T, name string, l, got, want impl.Log, code, wantCode int) {
	t.Helper()
	if got != want || code != wantCode {
		t.Errorf("%s of %s = %s, %d, not %s, %d", name, told(l), told(got), code, told(want), wantCode)
	}
}

func checkAppend(t *testing.T, l impl.Log, record string) (impl.Log, int) {
	t.Helper()
	want, wantCode := appended(l, record)
	got, code := impl.LogAppend(l, record)
	checkLogAnswer(t, "LogAppend", l, got, want, code, wantCode)
	return got, code
}

func checkRecords(t *testing.T, l impl.Log, want []string, wantSize, wantCode int) {
	t.Helper()
	list, size, code := impl.LogRecords(l)
	if !slices.Equal(list, want) || size != wantSize || code != wantCode {
		t.Errorf("LogRecords of %s = %s, %d, %d, not %s, %d, %d", told(l), told(list), size, code, told(want), wantSize, wantCode)
	}
}

// checkCrash holds a right log's crash and its repair against the bytes that are kept.
func checkCrash(t *testing.T, l impl.Log, keep int) {
	t.Helper()
	kept := []byte(l.Data[:l.Sure])
	for _, c := range []byte(l.Data[l.Sure:]) {
		if keep <= len(kept)-l.Sure {
			break
		}
		kept = append(kept, c)
	}
	crashed, code := impl.LogCrash(l, keep)
	checkLogAnswer(t, "LogCrash", l, crashed, sureLog(l.Room, string(kept)), code, impl.OK)
	checkRepair(t, crashed)
}

// checkRepair holds a right log's records and its repair, done twice too, against the other reader.
func checkRepair(t *testing.T, l impl.Log) {
	t.Helper()
	list, size, behind := readLog(l.Data)
	checkRecords(t, l, list, size, behind)
	want, wantCode := sureLog(l.Room, l.Data[:size]), impl.OK
	if behind == impl.ErrSum {
		want, wantCode = l, impl.ErrSum
	}
	for _, x := range []impl.Log{l, want} {
		got, code := impl.LogRepair(x)
		checkLogAnswer(t, "LogRepair", x, got, want, code, wantCode)
	}
	if wantCode == impl.OK {
		checkRecords(t, want, list, size, impl.OK)
	}
}

// checkLog asks all of a right log but for its appending.
func checkLog(t *testing.T, l impl.Log) {
	t.Helper()
	if !impl.LogOK(l) || !rightLog(l) {
		t.Errorf("%s is not right", told(l))
	}
	got, code := impl.LogSync(l)
	checkLogAnswer(t, "LogSync", l, got, sureLog(l.Room, l.Data), code, impl.OK)
	checkRepair(t, l)
	for _, keep := range []int{math.MinInt, -1, 0, 1, 7, len(l.Data), math.MaxInt} {
		checkCrash(t, l, keep)
	}
}

// checkWrongLog asks that no call takes a log that is not right.
func checkWrongLog(t *testing.T, l impl.Log) {
	t.Helper()
	if impl.LogOK(l) || rightLog(l) {
		t.Errorf("%s is right", told(l))
	}
	for _, record := range []string{"", "a", strings.Repeat("r", 20000), strings.Repeat("r", 20001), fullText} {
		got, code := impl.LogAppend(l, record)
		checkLogAnswer(t, "LogAppend", l, got, impl.Log{}, code, impl.ErrBad)
	}
	for _, record := range []string{longText, endlessText} {
		got, code := impl.LogAppend(l, record)
		checkLogAnswer(t, "LogAppend", l, got, impl.Log{}, code, impl.ErrLong)
	}
	got, code := impl.LogSync(l)
	checkLogAnswer(t, "LogSync", l, got, impl.Log{}, code, impl.ErrBad)
	for _, keep := range []int{math.MinInt, -1, 0, 1, len(l.Data), math.MaxInt} {
		got, code := impl.LogCrash(l, keep)
		checkLogAnswer(t, "LogCrash", l, got, impl.Log{}, code, impl.ErrBad)
	}
	checkRecords(t, l, nil, 0, impl.ErrBad)
	got, code = impl.LogRepair(l)
	checkLogAnswer(t, "LogRepair", l, got, impl.Log{}, code, impl.ErrBad)
}
