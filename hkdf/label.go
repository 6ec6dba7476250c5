package hkdf

import "pharos/api"

// prefix stands ahead of each label, so that no other protocol's keys are the same.
const prefix = "tls13 "

// maxContext is what one byte can count.
const maxContext = 255

// Label is n bytes out of a key, for what a label of TLS 1.3 and its context tell.
func Label(key, label, context string, n int) (string, api.Errno) {
	if len(label) > api.MaxLabel || len(context) > maxContext {
		return "", api.ErrArg
	}
	return Expand(key, told(label, context, n), n)
}

// told is the info of a label. Whether n can be told by two bytes is Expand's to refuse.
func told(label, context string, n int) string {
	length := string([]byte{byte(n >> 8), byte(n)})
	return length + counted(prefix+label) + counted(context)
}

// counted is a text behind how many bytes it has.
func counted(s string) string {
	return string([]byte{byte(len(s))}) + s
}
